/-
  Some texts of this claim, one behind the other: TrailPicks, TrailAt, TrailAll. What each proves, and its condition, stands at its head.
-/
import Derived.Test.YtllogmokadcfmaaGreatZB42
import Derived.Test.YtllogmokadcfmaaGreatZB43
import Derived.Test.YtllogmokadcfmaaGreatZB48
import Derived.Test.YtllogmokadcfmaaGreatZB52
import Derived.Test.YtllogmokadcfmaaGreatZB3
import Derived.Laws.ResultCell
/-
  The contracts of the program's Picks and At: the versions that were decided on, put in order at once; an entry by its place. Condition: at most 900 entries.
-/
namespace Go.Proofs.YtllogmokadcfmaaGreat.Trail
open Go Go.RowKit Go.Lib Go.Proofs.YtllogmokadcfmaaGreat.Span Go.Proofs.YtllogmokadcfmaaGreat.Need Go.Proofs.YtllogmokadcfmaaGreat.Mani Go.Proofs.YtllogmokadcfmaaGreat.Grow Go.Proofs.YtllogmokadcfmaaGreat.Term
open Go.Proofs.YtllogmokadcfmaaGreat.Pick (Pk NewP MakesP info_pick pks pks_append pks_one newP_of_own reads_pick verOk verOk_iff)
open Go.Proofs.YtllogmokadcfmaaGreat.Fact (atS)
set_option linter.unusedVariables false
section
variable {w : World} {B : Nat} {v : Value} {x : Tr}
theorem TrP.decided (h : TrP w B v x) : ∃ g bs A1 c1 A2 c2, v = .pointer (some ⟨g, 0, none⟩) ∧ OkL x bs ∧ w.cell? ⟨g, 0, none⟩ = some (.slice A1 x.l.length c1) ∧ w.cell? ⟨g, 1, none⟩ = some (.slice A2 bs.length c2) ∧ g < w.heap.size ∧
    ∀ (K i : Nat), bs[K]? = some i → ∃ e ge gb off ver A n ca, x.l[i]? = some e ∧ (picksL x.l)[K]? = some (e.term.name, ver) ∧ e.term.set = [(ver, ver + 1)] ∧ A1 = some ⟨ge, 0, none⟩ ∧ A2 = some ⟨gb, off, none⟩ ∧ ge < w.heap.size ∧ gb < w.heap.size ∧ w.cell? ⟨gb, off + K, none⟩ = some (.int .i64 (i : Int)) ∧
      w.cell? ⟨ge, i * 9, none⟩ = some (.string e.term.name) ∧ w.cell? ⟨ge, i * 9 + 1, none⟩ = some (.slice A n ca) ∧ w.cell? ⟨ge, i * 9 + 2, none⟩ = some (.bool e.term.none) ∧ InS w 0 A n e.term.set ∧ e.term.name.size ≤ 1000000000 ∧ i < x.l.length := by
  obtain ⟨g, ve, vb, mo, bs, rfl, hB, h1, h2, h3, h4, h5⟩ := h
  obtain ⟨A1, c1, rfl, _, _⟩ := h2.form
  obtain ⟨A2, c2, rfl, hc2, hr⟩ := h3.form
  refine ⟨g, bs, A1, c1, A2, c2, rfl, h5, (h1.cell 0).trans rfl, (h1.cell 1).trans rfl, h1.lt, fun K i hi => ?_⟩
  obtain ⟨e, he, hc, hp⟩ := h5.beg.pick hi
  obtain ⟨ver, hv, hset⟩ := h5.dec.one e (List.mem_of_getElem? he) hc
  obtain ⟨ge, ce, A, n, ca, A3, n3, ca3, e1, hle, hBe, hge, _, hca, hca3, hs, hs3, k0, k1, k2, _, _, _, _, _, _⟩ := h2.at_ he
  injection e1 with e1 _ e3
  have hK := (List.getElem?_eq_some_iff.1 hi).1
  obtain ⟨gb, off, e4, hgb, hcell⟩ := hr (by omega)
  refine ⟨e, ge, gb, off, ver, A, n, ca, he, ?_, hset, e1, e4, hge, hgb, hcell K i hi, k0, k1, k2, hs, h5.names e (List.mem_of_getElem? he), (List.getElem?_eq_some_iff.1 he).1⟩
  rw [hp]
  unfold pickOf
  rw [hset]
  rfl
set_option maxHeartbeats 8000000 in
set_option maxRecDepth 100000 in
theorem picksTr_any (h : TrP w B v x) (hl : x.l.length ≤ 900) (hlv : x.level ≤ 900) : Calls Tryz.prog 16 #[v] w (MakesP w (picksT x.l)) := by
  obtain ⟨i0, hi0, hz0, hz1, hz2⟩ := info_parts info_pick
  obtain ⟨R, hR⟩ : ∃ R, picksT x.l = R := ⟨_, rfl⟩
  obtain ⟨g0, bs, A1, c1, A2, c2, rfl, h5, x0, x1, hgl, hat⟩ := h.decided
  have hbl := h5.beg.len
  have hpl := h5.beg.picks_len
  obtain ⟨ps, hps⟩ : ∃ ps, picksL x.l = ps := ⟨_, rfl⟩
  have Hend := hide (fun (d : List Pk) (hp : d.Perm ps) (hs : d.Pairwise fun x y => nlt y.1 x.1 = false) => (picks_end h5.dec (by rw [hps]; exact hp) hs : compL d = picksT x.l))
  rw [hps] at hpl hat
  rw [hR] at Hend ⊢
  have HA := hide hat
  have Hpl := hide hpl
  have Hbl := hide (show bs.length ≤ 900 by omega)
  have Hsort := hide (fun (Ax : Option Addr) (nx cx : Nat) (d : List Pk) (wx : World) (hx : NewP wx w.heap.size Ax nx cx d) (hs : w.heap.size ≤ wx.heap.size) (hn : nx ≤ 1000000001) => sortP_new wx hx hs hn)
  have Hcomp := hide (fun (Ax : Option Addr) (nx cx : Nat) (d : List Pk) (wx : World) (hx : NewP wx w.heap.size Ax nx cx d) (hs : w.heap.size ≤ wx.heap.size) (hn : nx ≤ 1000) => compactP_any hx hs hn)
  unfold MakesP
  clear h h5 hat hpl hps hR hbl hlv
  go_enter Tryz.func16, Tryz.ntmps16
  go_wp2
  go_loopw [3, 16] (fun u p wr => ∃ (i : Nat) (Ao : Option Addr) (co : Nat), i ≤ bs.length ∧ p = .int .i64 (i : Int) ∧ u = .slice Ao i co ∧ NewP wr w.heap.size Ao i co (ps.take i) ∧ Below w.heap.size w wr) (fun _ p _ => bs.length - (RowKit.intOf p).toNat)
  case atStart => exact ⟨0, none, 0, by omega, rfl, rfl, NewP.nil_ _ _, Below.refl _ _⟩
  case round =>
    obtain ⟨i, Ao, co, hi, rfl, rfl, hN, hb⟩ := hrel
    have hbs := hb.size
    have hble : bs.length ≤ 900 := Hbl.out
    by_cases hlt : i < bs.length
    · obtain ⟨j, hj⟩ : ∃ j, bs[i]? = some j := ⟨_, List.getElem?_eq_getElem hlt⟩
      obtain ⟨e, ge, gb, off, ver, A, n, ca, he, hp, hset, rfl, rfl, hge, hgb, ce, k0, k1, k2, hI, hes, hjl⟩ := HA.out i j hj
      obtain ⟨⟨en, es, ez⟩, el, ec⟩ := e
      simp only [] at hset hp k0 k1 k2 hI hes
      subst hset
      have b0 := (hb.cell (show (⟨ge, j * 9, none⟩ : Addr).block < _ from hge)).trans k0
      have b1 := (hb.cell (show (⟨ge, j * 9 + 1, none⟩ : Addr).block < _ from hge)).trans k1
      have b2 := (hb.cell (show (⟨ge, j * 9 + 2, none⟩ : Addr).block < _ from hge)).trans k2
      have bb := (hb.cell (show (⟨gb, off + i, none⟩ : Addr).block < _ from hgb)).trans ce
      have bx := (hb.cell (show (⟨g0, 0, none⟩ : Addr).block < _ from hgl)).trans x0
      have hIr := hI.below hb
      have i1 : (0 : Int) ≤ (i : Int) := by omega
      have i2 : (i : Int) < (bs.length : Int) := by omega
      have i3 : (0 : Int) ≤ (j : Int) := by omega
      have i4 : (j : Int) < (x.l.length : Int) := by omega
      have hts := take_snoc' ps i _ hp
      have Hts := hide hts
      have HK := hide (fun wx => Label.clone_any en wx hes)
      have hmx1 : i + 1 ≤ maxLen := by unfold maxLen; omega
      have hby : (i + 1) * 24 ≤ 140737488355328 := by omega
      clear hts hp he hj hI k0 k1 k2 ce
      go_upto_region 8 with fail
      obtain ⟨V, hV⟩ : ∃ V, V = wr.alloc (.cells #[.string en, .slice A n ca, .bool ez] 38) := ⟨_, rfl⟩
      have hVb : Below wr.heap.size wr V := by rw [hV]; exact alloc_b _
      have bk : Blk V wr.heap.size 38 #[.string en, .slice A n ca, .bool ez] := by rw [hV]; exact Blk.new _ _ _
      have hbV := hb.trans (hVb.mono hbs)
      have hNV := hN.below hVb
      have HLe : Hid (Calls Tryz.prog 42 #[.slice A n ca] V fun e w' => e = .returned (.tuple #[.int .i64 ver, .bool true]) ∧ V = w') := hide (by
        have h1 := (hIr.below hVb).1
        have h2 : n = 1 := by have := h1.1; simp at this; omega
        subst h2
        exact least_any (c := ca) V h1 (by omega))
      have HB := hide (fun (wx : World) (hx : Below V.heap.size V wx) => (show wx.cell? ⟨wr.heap.size, 0, none⟩ = some (.string en) ∧ wx.cell? ⟨wr.heap.size, 1, none⟩ = some (.slice A n ca) from ⟨((bk.below hx bk.lt).cell 0).trans rfl, ((bk.below hx bk.lt).cell 1).trans rfl⟩))
      try rw [← hV]
      clear hV b0 b1 b2 bb bx hIr hVb hN
      obtain ⟨v0, v1⟩ := HB.out V (Below.refl _ _)
      have hVs := hbV.size
      go_wp2_with (first
        | (go_at_call 42
           refine HLe.out.mono ?_
           rintro e w1 ⟨rfl, rfl⟩)
        | (go_at_call 43
           refine (HK.out _).mono ?_
           rintro e w5 ⟨rfl, hb5⟩
           have hN5 := hNV.below hb5
           have hb5w := hbV.trans (hb5.mono hVs)
           have hb5s := hb5w.size)
        | (at_builtin
           refine wpList_append_any _ rfl (.tmp 35) (.tmp 41) _ rfl w.heap.size 78 i0 _ 2 24 Tryz.underlying47 hi0 hz0 hz1 hz2 rfl (by omega) _ i (pks (ps.take i)) rfl (own_below hN5.2.2.1 (alloc_b (.cells #[.string en, .int .i64 ver] 78))) _ _ 1 _ _ rfl (reads_pick w5 en ver _ rfl) (pks_one _) hmx1 hby (by simp; omega) ?_
           intro v6 w6 hown6 hg6 _
           have hb6 : Below w.heap.size w w6 := (hb5w.alloc hb5s _).grown hg6 (by simp; omega) (fun k hk => (hN5.2.2.1.lt k hk).1)
           rw [← pks_append] at hown6
           obtain ⟨A6, c6, rfl, hN6⟩ := newP_of_own hown6))
      go_roundw
      case rel => exact ⟨i + 1, A6, c6, by omega, by go_num, rfl, by rw [Hts.out]; exact hN6, hb6⟩
      case measure => simp [RowKit.intOf]; omega
    · obtain rfl : i = bs.length := by omega
      have e0 : ps.take bs.length = ps := List.take_of_length_le (by have := Hpl.out; omega)
      rw [e0] at hN
      have HSo := hide (Hsort.out Ao bs.length co ps wr hN hbs (by omega))
      have Hco2 := hide (fun (d : List Pk) (wx : World) (hx : NewP wx w.heap.size Ao bs.length co d) (hs : w.heap.size ≤ wx.heap.size) => Hcomp.out Ao bs.length co d wx hx hs (by omega))
      clear e0 HA Hsort Hcomp hN
      go_wp2_with (first
        | (go_at_call 44
           refine HSo.out.mono ?_
           rintro e w1 ⟨rfl, d, hdp, hdl, hdr, hd, hb1⟩
           have hb1w := hb.trans hb1)
        | (go_at_call 47
           refine (Hco2.out d w1 hd hb1w.size).mono ?_
           rintro e w2 ⟨kk, rfl, hN2, hb2⟩))
      go_ret
      rw [Hend.out d hdp hdr] at hN2
      exact ⟨_, kk, _, rfl, hN2.less (Nat.zero_le _), hb1w.trans hb2⟩
set_option maxHeartbeats 2000000 in
set_option maxRecDepth 100000 in
theorem picksTr_nil (w : World) : Calls Tryz.prog 16 #[.pointer none] w fun e w' => (∃ A c, e = .returned (.slice A 0 c)) ∧ Below w.heap.size w w' := by
  go_enter Tryz.func16, Tryz.ntmps16
  go_wp2
  go_ret
  exact ⟨⟨_, _, rfl⟩, Below.refl _ _⟩
theorem results_ent {P : Program} {fn : Func} {p u : Tmp} {ty : TypeId} (h : fn.results = #[.cell p ty, .tmp u]) (tmps : Array Value) (w : World) (g : Nat) (t : TypeId) (cs : Array Value) (fr : Nat × Nat) (d : TypeDesc) (v : Value)
    (hp : tmps.getD p undef = .pointer (some ⟨g, 0, none⟩)) (hv : tmps.getD u undef = v) (hg : w.heap[g]? = some (.cells cs t fr))
    (hu : P.underlying ty = some d) (hd : (match d with | .struct _ | .array _ _ => true | _ => false) = true) (hi : (P.info? ty).map (·.size) = some cs.size) :
    (results fn tmps).run P w = .ok (.tuple #[.agg cs, v]) w := by
  rw [results_cell_tmp h]
  simp only [hp, hv, asAddr, Sem.run_pure, Result.andThen_ok, run_loadVar_row w g t ty cs fr d hg hu hd hi]
theorem ent_size : (Tryz.prog.info? 71).map (·.size) = some 5 := by kernel_rfl
abbrev zero5 : Array Value := #[.string ⟨#[]⟩, .slice none 0 0, .bool false, .int .i64 0, .int .i64 0]
theorem puts5 {g : Nat} {T : TypeId} {u0 u1 u2 u3 u4 : Value} (h : Blk w g T zero5) :
    Blk (((((w.setCell ⟨g, 0, none⟩ u0).setCell ⟨g, 1, none⟩ u1).setCell ⟨g, 2, none⟩ u2).setCell ⟨g, 3, none⟩ u3).setCell ⟨g, 4, none⟩ u4) g T #[u0, u1, u2, u3, u4] ∧
      w.grownBy (((((w.setCell ⟨g, 0, none⟩ u0).setCell ⟨g, 1, none⟩ u1).setCell ⟨g, 2, none⟩ u2).setCell ⟨g, 3, none⟩ u3).setCell ⟨g, 4, none⟩ u4) (some g) := by
  have h9 := ((((h.set_ 0 u0).set_ 1 u1).set_ 2 u2).set_ 3 u3).set_ 4 u4
  have e : ((((zero5.setIfInBounds 0 u0).setIfInBounds 1 u1).setIfInBounds 2 u2).setIfInBounds 3 u3).setIfInBounds 4 u4 = #[u0, u1, u2, u3, u4] := by simp [zero5]
  rw [e] at h9
  exact ⟨h9, only_setCell (only_setCell (only_setCell (only_setCell (only_setCell (only_self w g) (.inl rfl) _) (.inl rfl) _) (.inl rfl) _) (.inl rfl) _) (.inl rfl) _⟩
end
end Go.Proofs.YtllogmokadcfmaaGreat.Trail
/-
  The contract of the program's At: an entry by its place, its term in new memory. Condition: at most 900 entries, whose sets may be and are short.
-/
namespace Go.Proofs.YtllogmokadcfmaaGreat.Trail
open Go Go.RowKit Go.Lib Go.Proofs.YtllogmokadcfmaaGreat.Span Go.Proofs.YtllogmokadcfmaaGreat.Need Go.Proofs.YtllogmokadcfmaaGreat.Mani Go.Proofs.YtllogmokadcfmaaGreat.Grow Go.Proofs.YtllogmokadcfmaaGreat.Term
set_option linter.unusedVariables false
section
variable {w : World} {B : Nat} {v : Value} {x : Tr}
set_option maxHeartbeats 2000000 in
set_option maxRecDepth 100000 in
theorem atTr_any (i : Int) (h : TrP w B v x) (hsm : SmallE x.l) (hl : x.l.length ≤ 900) : Calls Tryz.prog 52 #[v, .int .i64 i] w (TellsEnt B w x.l i) := by
  unfold TellsEnt
  have HL := hide (fun (wx : World) (hb : Below w.heap.size w wx) => lenTr_any (h.below hb))
  obtain ⟨W, hW⟩ : ∃ W, W = w.alloc (.cells #[.string ⟨#[]⟩, .slice none 0 0, .bool false, .int .i64 0, .int .i64 0] 71) := ⟨_, rfl⟩
  have hbW : Below w.heap.size w W := by rw [hW]; exact alloc_b _
  have b0 : Blk W w.heap.size 71 zero5 := by rw [hW]; exact Blk.new _ _ _
  have hWs := hbW.size
  by_cases hr : 0 ≤ i ∧ i < x.l.length
  · obtain ⟨k, rfl⟩ : ∃ k : Nat, i = (k : Int) := ⟨i.toNat, by omega⟩
    have hk : k < x.l.length := by omega
    obtain ⟨q, hq⟩ : ∃ q, x.l[k]? = some q := ⟨_, List.getElem?_eq_getElem hk⟩
    obtain ⟨g0, ve, vb, mo, bs, rfl, hB, h1, h2, h3, h4, h5⟩ := h
    have hqn := h5.names q (List.mem_of_getElem? hq)
    obtain ⟨ge, ce, A, n, ca, A2, n2, ca2, rfl, hle, hBe, hge, _, hca, hca2, hs, hs2, c0, c1, c2, c3, c4, _, _, _, _⟩ := h2.at_ hq
    have x0 := (h1.cell 0).trans (show _ = some (Value.slice (some ⟨ge, 0, none⟩) x.l.length ce) from rfl)
    have hgl := h1.lt
    have HresQ := hide (show x.l[(k : Int).toNat]? = some q by rw [Int.toNat_natCast]; exact hq)
    have HD : Hid (decide (0 ≤ (k : Int) ∧ (k : Int) < x.l.length) = true) := hide (decide_eq_true hr)
    have hnq : n ≤ 60 := by have h1 := hs.1.1; have h2 := (hsm q (List.mem_of_getElem? hq)).2; omega
    have i1 : ¬ (k : Int) < 0 := by omega
    have i2 : ¬ (k : Int) ≥ (x.l.length : Int) := by omega
    have i3 : (0 : Int) ≤ (k : Int) := by omega
    have i4 : (k : Int) < (x.l.length : Int) := by omega
    have d0 := (hbW.cell (show (⟨ge, k * 9, none⟩ : Addr).block < _ from hge)).trans c0
    have d1 := (hbW.cell (show (⟨ge, k * 9 + 1, none⟩ : Addr).block < _ from hge)).trans c1
    have d2 := (hbW.cell (show (⟨ge, k * 9 + 2, none⟩ : Addr).block < _ from hge)).trans c2
    have d3 := (hbW.cell (show (⟨ge, k * 9 + 3, none⟩ : Addr).block < _ from hge)).trans c3
    have d4 := (hbW.cell (show (⟨ge, k * 9 + 4, none⟩ : Addr).block < _ from hge)).trans c4
    have dx := (hbW.cell (show (⟨g0, 0, none⟩ : Addr).block < _ from hgl)).trans x0
    have hIW := hs.below hbW
    obtain ⟨⟨qn, qs, qz⟩, ql, qc⟩ := q
    simp only [] at d0 d1 d2 d3 d4 hIW hqn hnq
    have HC := hide (fun (wx : World) (hx : SpOn wx A n qs) => copiedTr_any qn qs qz A n ca wx hx hqn (by omega))
    unfold TellsC at HC
    clear h1 h2 h3 h4 h5 hs hs2 c0 c1 c2 c3 c4 x0 hq hr hqn
    go_enter Tryz.func52, Tryz.ntmps52
    go_upto_region 1 with fail
    try rw [← hW]
    clear hW
    go_upto_region 4 with (first
      | (go_at_call 11
         refine (HL.out _ hbW).mono ?_
         rintro e w1 ⟨rfl, rfl⟩))
    obtain ⟨V, hV⟩ : ∃ V, V = W.alloc (.cells #[.string qn, .slice A n ca, .bool qz, .int .i64 (ql : Int), .int .i64 qc] 71) := ⟨_, rfl⟩
    have hVb : Below W.heap.size W V := by rw [hV]; exact alloc_b _
    have bk : Blk V W.heap.size 71 #[.string qn, .slice A n ca, .bool qz, .int .i64 (ql : Int), .int .i64 qc] := by rw [hV]; exact Blk.new _ _ _
    have b0V := b0.below hVb b0.lt
    have hbV := hbW.trans (hVb.mono hWs)
    have hIV := hIW.below hVb
    have hne : w.heap.size ≠ W.heap.size := by have := b0.lt; omega
    have hne2 : W.heap.size ≠ w.heap.size := fun e => hne e.symm
    try rw [← hV]
    clear hV d0 d1 d2 d3 d4 dx
    have m0 := (bk.cell 0).trans (show _ = some (Value.string qn) from rfl)
    have m1 := (bk.cell 1).trans (show _ = some (Value.slice A n ca) from rfl)
    have m2 := (bk.cell 2).trans (show _ = some (Value.bool qz) from rfl)
    have hVs := hbV.size
    go_wp2_with (first
      | (go_at_call 56
         refine (HC.out _ hIV.1).mono ?_
         rintro e w2 ⟨A3, n3, c3, rfl, hc3, hI3, hb3⟩
         have bk3 := bk.below hb3 bk.lt
         have b03 := b0V.below hb3 b0V.lt
         have p0 := (bk3.cell 0).trans (show _ = some (Value.string qn) from rfl)
         have p1 := (bk3.cell 1).trans (show _ = some (Value.slice A n ca) from rfl)
         have p2 := (bk3.cell 2).trans (show _ = some (Value.bool qz) from rfl)
         have p3 := (bk3.cell 3).trans (show _ = some (Value.int .i64 (ql : Int)) from rfl)
         have p4 := (bk3.cell 4).trans (show _ = some (Value.int .i64 qc) from rfl)
         have f0 := bk3.frozen 0
         have f1 := bk3.frozen 1
         have f2 := bk3.frozen 2
         have y0 := (b03.cell 0).trans (show _ = some (Value.string ⟨#[]⟩) from rfl)
         have y1 := (b03.cell 1).trans (show _ = some (Value.slice none 0 0) from rfl)
         have y2 := (b03.cell 2).trans (show _ = some (Value.bool false) from rfl)
         have y3 := (b03.cell 3).trans (show _ = some (Value.int .i64 0) from rfl)
         have y4 := (b03.cell 4).trans (show _ = some (Value.int .i64 0) from rfl)
         have z0 := b03.frozen 0
         have z1 := b03.frozen 1
         have z2 := b03.frozen 2
         have z3 := b03.frozen 3
         have z4 := b03.frozen 4))
    obtain ⟨W3, hW3⟩ : ∃ W3, W3 = (((w2.setCell ⟨W.heap.size, 0, none⟩ (.string qn)).setCell ⟨W.heap.size, 1, none⟩ (.slice A3 n3 c3)).setCell ⟨W.heap.size, 2, none⟩ (.bool qz)) := ⟨_, rfl⟩
    have hg3 : w2.grownBy W3 (some W.heap.size) := by rw [hW3]; exact only_setCell (p := ⟨W.heap.size, 2, none⟩) (only_setCell (p := ⟨W.heap.size, 1, none⟩) (only_setCell (p := ⟨W.heap.size, 0, none⟩) (only_self w2 W.heap.size) (.inl rfl) _) (.inl rfl) _) (.inl rfl) _
    have hbw2 := hbV.trans (hb3.mono hVs)
    have hb33 : Below w.heap.size w W3 := by rw [hW3]; exact three_b hbw2 hWs _ _ _
    have b04 := b03.grown hg3 (fun e => by injection e with e; exact hne e)
    have hI4 := insFar hI3 (farT_blk bk3 (by decide)) hg3
    have hp := puts5 (u0 := .string qn) (u1 := .slice A3 n3 c3) (u2 := .bool qz) (u3 := .int .i64 (ql : Int)) (u4 := .int .i64 qc) b04
    have hI5 := insFar hI4 (farT_blk b04 (by decide)) hp.2
    have hbz : Below w.heap.size w _ := hb33.grown hp.2 hb33.size (fun k hk => by injection hk with hk; omega)
    have hbk := hp.1
    rw [hW3] at hbk hI5 hbz
    refine bodyPost_ret (results_ent rfl _ _ w.heap.size 71 _ (0, 0) _ _ rfl rfl hbk Tryz.underlying71 rfl ent_size) rfl ?_
    exact ⟨A3, n3, c3, qn, qz, (ql : Int), qc, by rw [HD.out]; rfl, hbz, fun _ => ⟨_, HresQ.out, rfl, rfl, rfl, rfl, ins_any hI5⟩⟩
  · have HD : Hid (decide (0 ≤ i ∧ i < x.l.length) = false) := hide (decide_eq_false hr)
    have Hr := hide hr
    obtain ⟨g0, hv0, hgl, hBg, _⟩ := h.ahead
    subst hv0
    clear h hr
    by_cases hi : i < 0
    · go_enter Tryz.func52, Tryz.ntmps52
      go_wp2
      refine bodyPost_ret (results_ent rfl _ _ w.heap.size 71 _ (0, 0) _ _ rfl rfl (Blk.new _ _ _) Tryz.underlying71 rfl ent_size) rfl ?_
      exact ⟨none, 0, 0, ⟨#[]⟩, false, 0, 0, by rw [HD.out]; rfl, alloc_b _, fun h => absurd h Hr.out⟩
    · have i2 : i ≥ (x.l.length : Int) := by have := Hr.out; omega
      go_enter Tryz.func52, Tryz.ntmps52
      go_wp2_with (first
        | (go_at_call 11
           refine (HL.out _ (alloc_b _)).mono ?_
           rintro e w1 ⟨rfl, rfl⟩))
      refine bodyPost_ret (results_ent rfl _ _ w.heap.size 71 _ (0, 0) _ _ rfl rfl (Blk.new _ _ _) Tryz.underlying71 rfl ent_size) rfl ?_
      exact ⟨none, 0, 0, ⟨#[]⟩, false, 0, 0, by rw [HD.out]; rfl, alloc_b _, fun h => absurd h Hr.out⟩
end
end Go.Proofs.YtllogmokadcfmaaGreat.Trail
/-
  The program's trail tells what the laws ask that look at entries and picks; what is told of no trail. No condition.
-/
namespace Go.Proofs.YtllogmokadcfmaaGreat.Trail
open Go Go.RowKit Go.Lib Go.Proofs.YtllogmokadcfmaaGreat.Span Go.Proofs.YtllogmokadcfmaaGreat.Need Go.Proofs.YtllogmokadcfmaaGreat.Mani Go.Proofs.YtllogmokadcfmaaGreat.Grow Go.Proofs.YtllogmokadcfmaaGreat.Term
set_option linter.unusedVariables false
theorem progP : ProgP TrP TrS where
  toProgT := progT
  refX := not_trS (by decide)
  refE := not_trS (by decide)
  at_ := fun i h hf => atTr_any i h hf.small (by have := hf.len; omega)
  picks := fun h hf _ => picksTr_any h (by have := hf.len; omega) (by have := hf.level; omega)
set_option maxHeartbeats 2000000 in
set_option maxRecDepth 100000 in
theorem knowAtTr_nil (k : Int) (nm : ByteArray) (w : World) (hnm : nm.size ≤ 1000000000) : Calls Tryz.prog 22 #[.pointer none, .int .i64 k, .string nm] w (TellsC w ⟨nm, allS, true⟩) := by
  unfold TellsC
  have HF := hide (fun (wx : World) => findTr_nil nm wx)
  have HKn := hide (fun (wx : World) => knownTr_zero (.pointer none) nm wx)
  have HC := hide (fun (wx : World) (A : Option Addr) (n c : Nat) (hx : SpOn wx A n allS) => copiedTr_any nm allS true A n c wx hx hnm (by have h1 := hx.1; have h2 : allS.length = 1 := rfl; omega))
  unfold TellsC at HKn HC
  have e1 : ¬ (0 : Int) > max k 0 := by omega
  obtain ⟨W, hW⟩ : ∃ W, W = w.alloc (.cells #[.string ⟨#[]⟩, .slice none 0 0, .bool false] 38) := ⟨_, rfl⟩
  have hbW : Below w.heap.size w W := by rw [hW]; exact alloc_b _
  have bk : Blk W w.heap.size 38 #[.string ⟨#[]⟩, .slice none 0 0, .bool false] := by rw [hW]; exact Blk.new _ _ _
  generalize allS = L at *
  go_enter Tryz.func22, Tryz.ntmps22
  go_upto_region 1 with fail
  try rw [← hW]
  clear hW
  go_upto_region 2 with (first
    | (go_at_call 55
       refine (HF.out _).mono ?_
       rintro e w1 ⟨rfl, rfl⟩))
  go_loopw [7] (fun u wr => u = .int .i64 0 ∧ wr = W) (fun u _ => (RowKit.intOf u).toNat)
  case atStart => exact ⟨rfl, rfl⟩
  case round =>
    obtain ⟨rfl, rfl⟩ := hrel
    go_wp2_with (first
      | (go_at_call 56
         refine (HC.out _ _ _ _ hI1.1).mono ?_
         rintro e w2 ⟨A2, n2, c2, rfl, hc2, hI2, hb2⟩
         have br := (bk.below hb1 bk.lt).below hb2 (bk.below hb1 bk.lt).lt
         have hb := (hbW.trans (hb1.mono hbW.size)).trans (hb2.mono (hbW.trans (hb1.mono hbW.size)).size)
         have z0 := br.cell 0
         have z1 := br.cell 1
         have z2 := br.cell 2
         have f0 := br.frozen 0
         have f1 := br.frozen 1
         have f2 := br.frozen 2)
      | (go_at_call 57
         refine (HKn.out _).mono ?_
         rintro e w1 ⟨A1, n1, c1, rfl, hc1, hI1, hb1⟩))
    have hblk := stored_row (u := .string nm) (v := .slice A2 n2 c2) (x := .bool true) br rfl
    have hgs : w2.grownBy (((w2.setCell ⟨w.heap.size, 0, none⟩ (.string nm)).setCell ⟨w.heap.size, 1, none⟩ (.slice A2 n2 c2)).setCell ⟨w.heap.size, 2, none⟩ (.bool true)) (some w.heap.size) := only_setCell (p := ⟨w.heap.size, 2, none⟩) (only_setCell (p := ⟨w.heap.size, 1, none⟩) (only_setCell (p := ⟨w.heap.size, 0, none⟩) (only_self w2 w.heap.size) (.inl rfl) _) (.inl rfl) _) (.inl rfl) _
    have hIr := insFar hI2 (farT_blk br (by decide)) hgs
    refine bodyPost_ret (results_cell_row rfl _ _ w.heap.size 38 _ (0, 0) _ rfl hblk Tryz.underlying38 rfl rfl) rfl ?_
    exact ⟨A2, n2, c2, rfl, hc2, hIr, three_b hb (by omega) _ _ _⟩
set_option maxHeartbeats 2000000 in
set_option maxRecDepth 100000 in
theorem knowTr_nil (nm : ByteArray) (w : World) (hnm : nm.size ≤ 1000000000) : Calls Tryz.prog 18 #[.pointer none, .string nm] w (TellsC w ⟨nm, allS, true⟩) := by
  have HK := hide (fun (wx : World) => knowAtTr_nil 0 nm wx hnm)
  have HL := hide (fun (wx : World) => lenTr_nil wx)
  unfold TellsC at *
  generalize allS = L at *
  obtain ⟨W, hW⟩ : ∃ W, W = w.alloc (.cells #[.string ⟨#[]⟩, .slice none 0 0, .bool false] 38) := ⟨_, rfl⟩
  have hbW : Below w.heap.size w W := by rw [hW]; exact alloc_b _
  have bk : Blk W w.heap.size 38 #[.string ⟨#[]⟩, .slice none 0 0, .bool false] := by rw [hW]; exact Blk.new _ _ _
  go_enter Tryz.func18, Tryz.ntmps18
  go_upto_region 1 with fail
  try rw [← hW]
  clear hW
  go_wp2_with (first
    | (go_at_call 11
       refine (HL.out _).mono ?_
       rintro e w1 ⟨rfl, rfl⟩)
    | (go_at_call 22
       refine (HK.out _).mono ?_
       rintro e w2 ⟨A2, n2, c2, rfl, hc2, hI2, hb2⟩
       have br := bk.below hb2 bk.lt
       have hb := hbW.trans (hb2.mono hbW.size)
       have z0 := br.cell 0
       have z1 := br.cell 1
       have z2 := br.cell 2
       have f0 := br.frozen 0
       have f1 := br.frozen 1
       have f2 := br.frozen 2))
  have hblk := stored_row (u := .string nm) (v := .slice A2 n2 c2) (x := .bool true) br rfl
  have hgs : w2.grownBy (((w2.setCell ⟨w.heap.size, 0, none⟩ (.string nm)).setCell ⟨w.heap.size, 1, none⟩ (.slice A2 n2 c2)).setCell ⟨w.heap.size, 2, none⟩ (.bool true)) (some w.heap.size) := only_setCell (p := ⟨w.heap.size, 2, none⟩) (only_setCell (p := ⟨w.heap.size, 1, none⟩) (only_setCell (p := ⟨w.heap.size, 0, none⟩) (only_self w2 w.heap.size) (.inl rfl) _) (.inl rfl) _) (.inl rfl) _
  have hIr := insFar hI2 (farT_blk br (by decide)) hgs
  refine bodyPost_ret (results_cell_row rfl _ _ w.heap.size 38 _ (0, 0) _ rfl hblk Tryz.underlying38 rfl rfl) rfl ?_
  exact ⟨A2, n2, c2, rfl, hc2, hIr, three_b hb (by omega) _ _ _⟩
theorem nilT : NilT where
  back := backTr_nil
  decide := decideTr_nil
  derive := deriveTr_nil
  len := fun w => (lenTr_nil w).mono fun _ _ ⟨e, hw⟩ => ⟨e, same_b hw⟩
  level := fun w => (levelTr_nil w).mono fun _ _ ⟨e, hw⟩ => ⟨e, same_b hw⟩
  first := firstTr_nil
  picks := picksTr_nil
  know := fun nm w hn => (knowTr_nil nm w hn).mono fun _ _ => tellsB_of
end Go.Proofs.YtllogmokadcfmaaGreat.Trail
