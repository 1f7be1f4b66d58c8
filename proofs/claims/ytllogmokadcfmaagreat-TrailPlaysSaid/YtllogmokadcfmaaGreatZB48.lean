/-
  Some texts of this claim, one behind the other: TrailCopy, TrailKnow, TrailLaws, TrailPop, TrailBack, TrailSince. What each proves, and its condition, stands at its head.
-/
import Derived.Test.YtllogmokadcfmaaGreatZB46
import Derived.Test.YtllogmokadcfmaaGreatZB23
import Derived.Test.YtllogmokadcfmaaGreatZB47
import Derived.Test.YtllogmokadcfmaaGreatZB28
import Derived.Deep.RegionLaw
/-
  The contracts of the program's copied, KnowAt and Know: a term in new memory; what is known of a name by the first entries, or by all. Condition: names of at most 1,000,000,000 bytes, at most 1000 entries.
-/
namespace Go.Proofs.YtllogmokadcfmaaGreat.Trail
open Go Go.RowKit Go.Lib Go.Proofs.YtllogmokadcfmaaGreat.Span Go.Proofs.YtllogmokadcfmaaGreat.Need Go.Proofs.YtllogmokadcfmaaGreat.Mani Go.Proofs.YtllogmokadcfmaaGreat.Grow Go.Proofs.YtllogmokadcfmaaGreat.Term
set_option linter.unusedVariables false
theorem cell_regN {w : World} {p : Addr} {v : Value} (h : w.cell? p = some v) (hp : p.block < w.heap.size) (d : Nat) (os : Array Obj) : (Sort.grow (redrawn w d) os).cell? p = some v :=
  ((below_regrown w d os).cell hp).trans h
def storesN (g B : Nat) (t : Tm) : Wr := fun w1 v w2 => ∃ A n c, NewS w1 B A n c t.set ∧ w2 = ((w1.setCell ⟨g, 0, none⟩ (.string t.name)).setCell ⟨g, 1, none⟩ (.slice A n c)).setCell ⟨g, 2, none⟩ (.bool t.none)
set_option maxHeartbeats 8000000 in
set_option maxRecDepth 100000 in
theorem copiedTr_any (nm : ByteArray) (s : List S) (z : Bool) (A : Option Addr) (n c : Nat) (w : World) (h : SpOn w A n s) (hnm : nm.size ≤ 1000000000) (hn : n ≤ 1000000) :
    Calls Tryz.prog 56 #[.agg #[.string nm, .slice A n c, .bool z]] w (TellsC w ⟨nm, s, z⟩) := by
  unfold TellsC
  obtain ⟨i0, hi0, hz0, hz1, hz2⟩ := info_parts info_span
  have HK := hide (fun wx => Label.clone_any nm wx hnm)
  obtain ⟨W, hW⟩ : ∃ W, W = (w.alloc (.cells #[.string nm, .slice A n c, .bool z] 38)).alloc (.cells #[.string ⟨#[]⟩, .slice none 0 0, .bool false] 38) := ⟨_, rfl⟩
  have hbW : Below w.heap.size w W := by rw [hW]; exact ((Below.refl _ _).alloc (Nat.le_refl _) _).alloc (by simp) _
  have bt : Blk W w.heap.size 38 #[.string nm, .slice A n c, .bool z] := by rw [hW]; exact (Blk.new w _ _).alloc _
  have br : Blk W (w.heap.size + 1) 38 #[.string ⟨#[]⟩, .slice none 0 0, .bool false] := by
    rw [hW]
    have := Blk.new (w.alloc (.cells #[.string nm, .slice A n c, .bool z] 38)) 38 #[.string ⟨#[]⟩, .slice none 0 0, .bool false]
    rwa [World.size_alloc] at this
  have hrd := reads_of_spIn (SpOn.on h hbW)
  go_enter Tryz.func56, Tryz.ntmps56
  go_upto_region 1 with fail
  try rw [← hW]
  clear hW
  have q0 := cell_regN ((bt.cell 0).trans (show (#[.string nm, .slice A n c, .bool z] : Array Value)[0]? = some (.string nm) from rfl)) bt.lt
  have q1 := cell_regN ((bt.cell 1).trans (show (#[.string nm, .slice A n c, .bool z] : Array Value)[1]? = some (.slice A n c) from rfl)) bt.lt
  have q2 := cell_regN ((bt.cell 2).trans (show (#[.string nm, .slice A n c, .bool z] : Array Value)[2]? = some (.bool z) from rfl)) bt.lt
  refine wp_region_grow_w [(5, isC (.string nm)), (8, isS W.heap.size s)] [5, 8] 9 (storesN (w.heap.size + 1) W.heap.size ⟨nm, s, z⟩) _
    (by kernel_rfl) (by kernel_rfl) rfl (by kernel_rfl) (by kernel_rfl) (by kernel_rfl) rfl rfl (by kernel_rfl) (by kernel_rfl) ⟨isC_stable _, isS_stable _ _, trivial⟩ ?_
  repeat (first
    | (refine lexK_quiet (by decide) rfl rfl rfl (fun K hK => ?_); unfold Reg; go_big_quiet_op; refine hK _ ?_; clear hK K)
    | (refine lexK_rel (by decide) rfl rfl (fun w' hb9 hK => ?_) (fun vv w' hb9 hv => ?_)
       · unfold grows
         go_simp
         go_at_call 43
         exact call_isC (HK.out w')
       obtain rfl := hv
       simp only [Act.put, List.setIfInBounds_toArray, List.set_cons_zero, List.set_cons_succ])
    | (refine lexK_rel (by decide) rfl rfl (fun w' hb9 hK => ?_) (fun vv w' hb9 hv => ?_)
       · refine grows_append _ (.tmp 7) _ rfl W.heap.size 56 i0 _ 2 16 Tryz.underlying36 hi0 hz0 hz1 hz2 rfl (by omega) _ 0 [] rfl (World.ownsRow_nil w' _ _ 2) _ _ n _ (scs s) rfl (hrd.below hb9) (scs_one _) (by unfold maxLen; omega) (by omega) hb9.size ?_
         intro v' w2 hown hg _
         rw [Nat.zero_add, List.nil_append] at hown
         obtain ⟨A2, c2, rfl, hN⟩ := newS_of_own hown
         exact ⟨below_none hg, A2, n, c2, rfl, hN⟩
       obtain ⟨A3, n3, c3, rfl, hN3⟩ := hv
       simp only [Act.put, List.setIfInBounds_toArray, List.set_cons_zero, List.set_cons_succ])
    | (refine lexK_wr rfl rfl (fun w' hb9 hK => ?_) (fun vv w' w'' hb9 hv => ?_)
       · obtain ⟨A4, n4, c4, e4, hN4⟩ := hK.at_ 8 rfl (slice_def2 _ _ _)
         have bk9 := br.below hb9 br.lt
         have k0 := bk9.cell 0
         have k1 := bk9.cell 1
         have k2 := bk9.cell 2
         have f0 := bk9.frozen 0
         have f1 := bk9.frozen 1
         have f2 := bk9.frozen 2
         unfold grows
         go_simp
         have e5 : Value.slice A3 n3 c3 = .slice A4 n4 c4 := e4
         injection e5 with e6 e7 e8
         subst e6 e7 e8
         exact ⟨_, _, _, hN4, rfl⟩
       simp only [Act.put]))
  refine lexK_nil (fun w9 w1 vv hC9 hall hS _ => ?_)
  have hb9 := reg_iff.1 hC9
  obtain ⟨A5, n5, c5, hN5, rfl⟩ := hS
  have hst := stored_blk (br.below hb9 br.lt) rfl hN5 br.lt
  go_wp2
  refine bodyPost_ret (results_cell_row rfl _ _ (w.heap.size + 1) 38 _ (0, 0) _ rfl hst.1 Tryz.underlying38 rfl rfl) rfl ?_
  exact ⟨A5, n5, c5, rfl, hst.2.2.1, InS.of_new hst.2, three_b (hbW.trans (hb9.mono hbW.size)) (by omega) _ _ _⟩
end Go.Proofs.YtllogmokadcfmaaGreat.Trail
/-
  The contracts of the program's KnowAt and Know: what is known of a name by the first entries, or by all. Condition: names of at most 1,000,000,000 bytes, at most 1000 entries, whose sets may be and are short.
-/
namespace Go.Proofs.YtllogmokadcfmaaGreat.Trail
open Go Go.RowKit Go.Lib Go.Proofs.YtllogmokadcfmaaGreat.Span Go.Proofs.YtllogmokadcfmaaGreat.Need Go.Proofs.YtllogmokadcfmaaGreat.Mani Go.Proofs.YtllogmokadcfmaaGreat.Grow Go.Proofs.YtllogmokadcfmaaGreat.Term
set_option linter.unusedVariables false
section
variable {w : World} {B : Nat} {v : Value} {x : Tr}
theorem TrP.ahead (h : TrP w B v x) : ∃ g, v = .pointer (some ⟨g, 0, none⟩) ∧ g < w.heap.size ∧ B ≤ g ∧ ∀ (i : Nat) (q : Ent), x.l[i]? = some q → ∃ ge ce, w.cell? ⟨g, 0, none⟩ = some (.slice (some ⟨ge, 0, none⟩) x.l.length ce) ∧ x.l.length ≤ ce ∧ ge < w.heap.size ∧ w.cell? ⟨ge, i * 9 + 5, none⟩ = some (.int .i64 (lastNo (x.l.take i) q.term.name : Int)) := by
  obtain ⟨g, ve, vb, mo, bs, rfl, hB, h1, h2, h3, h4, h5⟩ := h
  refine ⟨g, rfl, h1.lt, hB, fun i q hq => ?_⟩
  obtain ⟨ge, ce, A, n, ca, A2, n2, ca2, rfl, hle, hBe, hge, _, hca, hca2, hs, hs2, c0, c1, c2, c3, c4, c5, c6, c7, c8⟩ := h2.at_ hq
  exact ⟨ge, ce, (h1.cell 0).trans rfl, hle, hge, c5⟩
set_option maxHeartbeats 8000000 in
set_option maxRecDepth 100000 in
theorem knowAtTr_any (k : Int) (nm : ByteArray) (h : TrP w B v x) (hs : SmallE x.l) (hl : x.l.length ≤ 1000) (hnm : nm.size ≤ 1000000000) :
    Calls Tryz.prog 22 #[v, .int .i64 k, .string nm] w (TellsC w (knowL (x.l.take k.toNat) nm)) := by
  unfold TellsC
  obtain ⟨K, hK⟩ : ∃ K, K = knowL (x.l.take k.toNat) nm := ⟨_, rfl⟩
  have hKn : K.name = nm := by rw [hK]; exact know_name _ _
  have hKl : K.set.length ≤ 1 + 60 * x.l.length := by rw [hK]; exact know_len_at hs nm
  rw [← hK]
  obtain ⟨kn, ks, kz⟩ := K
  simp only [] at hKn hKl ⊢
  subst hKn
  have HK := hide hK
  have HF := hide (fun (wx : World) (hb : Below w.heap.size w wx) => findTr_any kn (h.below hb) hnm)
  have HKn := hide (fun (wx : World) (hb : Below w.heap.size w wx) (i : Nat) (hi : IsNo x.l i kn) (e : knowL (x.l.take i) kn = ⟨kn, ks, kz⟩) => by
    have := knownTr_any kn (h.below hb) hi hl
    rw [e] at this
    exact this)
  have HC := hide (fun (wx : World) (A : Option Addr) (n c : Nat) (hx : SpOn wx A n ks) => copiedTr_any kn ks kz A n c wx hx hnm (by have := hx.1; omega))
  unfold TellsC at HKn HC
  have HAh := hide (fun (wx : World) (hb : Below w.heap.size w wx) => (h.below hb).ahead)
  have Hno := hide (isNo_all x.l kn)
  have Hlm := hide (show lastNo (x.l.take (min k.toNat x.l.length)) kn ≤ lastNo x.l kn by
    have := last_mono (l := x.l) kn (a := min k.toNat x.l.length) x.l.length (Nat.min_le_right _ _) (Nat.le_refl _)
    rwa [List.take_length] at this)
  obtain ⟨g, rfl, hgl, hBg, _⟩ := h.ahead
  clear h hs hnm hK
  obtain ⟨W, hW⟩ : ∃ W, W = w.alloc (.cells #[.string ⟨#[]⟩, .slice none 0 0, .bool false] 38) := ⟨_, rfl⟩
  have hbW : Below w.heap.size w W := by rw [hW]; exact alloc_b _
  have bk : Blk W w.heap.size 38 #[.string ⟨#[]⟩, .slice none 0 0, .bool false] := by rw [hW]; exact Blk.new _ _ _
  go_enter Tryz.func22, Tryz.ntmps22
  go_upto_region 1 with fail
  try rw [← hW]
  clear hW
  go_upto_region 2 with (first
    | (go_at_call 55
       refine (HF.out _ hbW).mono ?_
       rintro e w1 ⟨rfl, rfl⟩))
  generalize lastNo x.l kn = L0 at *
  go_loopw [7] (fun u wr => ∃ i : Nat, u = .int .i64 (i : Int) ∧ Hid (IsNo x.l i kn) ∧ Hid (lastNo (x.l.take (min k.toNat x.l.length)) kn ≤ i) ∧ wr = W) (fun u _ => (RowKit.intOf u).toNat)
  case atStart => exact ⟨L0, rfl, Hno, Hlm, rfl⟩
  case round =>
    obtain ⟨i, rfl, hno, hlm, rfl⟩ := hrel
    have hil := hno.out.1
    by_cases hlt : (i : Int) > max k 0
    · obtain ⟨j, rfl⟩ : ∃ j, i = j + 1 := ⟨i - 1, by omega⟩
      obtain ⟨q, hq, hqn⟩ := hno.out.2 j rfl
      obtain ⟨g', e1, hg1, _, hah⟩ := HAh.out wr hbW
      injection e1 with e1
      injection e1 with e1
      injection e1 with e1
      subst e1
      obtain ⟨ge, ce, c0, hle, hge, c5⟩ := hah j q hq
      rw [hqn] at c5
      have hn1 : ((j + 1 : Nat) : Int) - 1 = (j : Int) := by omega
      have i1 : (0 : Int) ≤ (j : Int) := by omega
      have i2 : (j : Int) < (x.l.length : Int) := by omega
      have N1 := hide (isNo_last (l := x.l) kn (k := j) (by omega))
      have N2 := hide (last_step (l := x.l) (nm := kn) (i := j) (K := k.toNat) (by omega) (by omega))
      have N3 := last_le (l := x.l) kn j (by omega)
      clear hah hq hqn hno hlm
      generalize lastNo (x.l.take j) kn = L1 at *
      go_wp2
      go_roundw
      case rel => exact ⟨L1, rfl, N1, N2, by first | trivial | rfl⟩
      case measure => simp [RowKit.intOf]; omega
    · have E : knowL (x.l.take i) kn = ⟨kn, ks, kz⟩ := by
        rw [HK.out]
        exact know_exit hno.out hlm.out (by omega)
      have HE := hide E
      clear E hlm HAh
      have HNO := hno
      clear hno
      go_wp2_with (first
        | (go_at_call 56
           refine (HC.out _ _ _ _ hI1.1).mono ?_
           rintro e w2 ⟨A2, n2, c2, rfl, hc2, hI2, hb2⟩
           have br := (bk.below hb1 bk.lt).below hb2 (bk.below hb1 bk.lt).lt
           have hb := (hbW.trans (hb1.mono hbW.size)).trans (hb2.mono (hbW.trans (hb1.mono hbW.size)).size)
           have z0 := br.cell 0
           have z1 := br.cell 1
           have z2 := br.cell 2
           have f0 := br.frozen 0
           have f1 := br.frozen 1
           have f2 := br.frozen 2)
        | (go_at_call 57
           refine (HKn.out _ hbW i HNO.out HE.out).mono ?_
           rintro e w1 ⟨A1, n1, c1, rfl, hc1, hI1, hb1⟩))
      have hblk := stored_row (u := .string kn) (v := .slice A2 n2 c2) (x := .bool kz) br rfl
      have hgs : w2.grownBy (((w2.setCell ⟨w.heap.size, 0, none⟩ (.string kn)).setCell ⟨w.heap.size, 1, none⟩ (.slice A2 n2 c2)).setCell ⟨w.heap.size, 2, none⟩ (.bool kz)) (some w.heap.size) := only_setCell (p := ⟨w.heap.size, 2, none⟩) (only_setCell (p := ⟨w.heap.size, 1, none⟩) (only_setCell (p := ⟨w.heap.size, 0, none⟩) (only_self w2 w.heap.size) (.inl rfl) _) (.inl rfl) _) (.inl rfl) _
      have hIr := insFar hI2 (farT_blk br (by decide)) hgs
      refine bodyPost_ret (results_cell_row rfl _ _ w.heap.size 38 _ (0, 0) _ rfl hblk Tryz.underlying38 rfl rfl) rfl ?_
      exact ⟨A2, n2, c2, rfl, hc2, hIr, three_b hb (by omega) _ _ _⟩
set_option maxHeartbeats 8000000 in
set_option maxRecDepth 100000 in
theorem knowTr_any (nm : ByteArray) (h : TrP w B v x) (hs : SmallE x.l) (hl : x.l.length ≤ 1000) (hnm : nm.size ≤ 1000000000) :
    Calls Tryz.prog 18 #[v, .string nm] w (TellsC w (knowL x.l nm)) := by
  have HK := hide (fun (wx : World) (hb : Below w.heap.size w wx) => knowAtTr_any (x.l.length : Int) nm (h.below hb) hs hl hnm)
  have HL := hide (fun (wx : World) (hb : Below w.heap.size w wx) => lenTr_any (h.below hb))
  unfold TellsC at *
  have et : x.l.take (x.l.length : Int).toNat = x.l := List.take_of_length_le (by omega)
  rw [et] at HK
  clear h hs hl hnm et
  generalize knowL x.l nm = K at *
  obtain ⟨W, hW⟩ : ∃ W, W = w.alloc (.cells #[.string ⟨#[]⟩, .slice none 0 0, .bool false] 38) := ⟨_, rfl⟩
  have hbW : Below w.heap.size w W := by rw [hW]; exact alloc_b _
  have bk : Blk W w.heap.size 38 #[.string ⟨#[]⟩, .slice none 0 0, .bool false] := by rw [hW]; exact Blk.new _ _ _
  go_enter Tryz.func18, Tryz.ntmps18
  go_upto_region 1 with fail
  try rw [← hW]
  clear hW
  go_wp2_with (first
    | (go_at_call 11
       refine (HL.out _ hbW).mono ?_
       rintro e w1 ⟨rfl, rfl⟩)
    | (go_at_call 22
       refine (HK.out _ hbW).mono ?_
       rintro e w2 ⟨A2, n2, c2, rfl, hc2, hI2, hb2⟩
       have br := bk.below hb2 bk.lt
       have hb := hbW.trans (hb2.mono hbW.size)
       have z0 := br.cell 0
       have z1 := br.cell 1
       have z2 := br.cell 2
       have f0 := br.frozen 0
       have f1 := br.frozen 1
       have f2 := br.frozen 2))
  have hblk := stored_row (u := .string K.name) (v := .slice A2 n2 c2) (x := .bool K.none) br rfl
  have hgs : w2.grownBy (((w2.setCell ⟨w.heap.size, 0, none⟩ (.string K.name)).setCell ⟨w.heap.size, 1, none⟩ (.slice A2 n2 c2)).setCell ⟨w.heap.size, 2, none⟩ (.bool K.none)) (some w.heap.size) := only_setCell (p := ⟨w.heap.size, 2, none⟩) (only_setCell (p := ⟨w.heap.size, 1, none⟩) (only_setCell (p := ⟨w.heap.size, 0, none⟩) (only_self w2 w.heap.size) (.inl rfl) _) (.inl rfl) _) (.inl rfl) _
  have hIr := insFar hI2 (farT_blk br (by decide)) hgs
  refine bodyPost_ret (results_cell_row rfl _ _ w.heap.size 38 _ (0, 0) _ rfl hblk Tryz.underlying38 rfl rfl) rfl ?_
  exact ⟨A2, n2, c2, rfl, hc2, hIr, three_b hb (by omega) _ _ _⟩
end
end Go.Proofs.YtllogmokadcfmaaGreat.Trail
/-
  Laws for the walk over the program's trail: a number appended to the row of beginnings, which may be cut at its end; a key taken out of a map, in a region that draws its order. No condition.
-/
namespace Go.Proofs.YtllogmokadcfmaaGreat.Trail
open Go Go.RowKit Go.Lib Go.Proofs.YtllogmokadcfmaaGreat.Span Go.Proofs.YtllogmokadcfmaaGreat.Need Go.Proofs.YtllogmokadcfmaaGreat.Mani Go.Proofs.YtllogmokadcfmaaGreat.Grow Go.Proofs.YtllogmokadcfmaaGreat.Term
open Go.Proofs.YtllogmokadcfmaaGreat.MapV
set_option linter.unusedVariables false
theorem info_int : (Tryz.prog.info? 3).map (fun i => (i.zero, i.size, i.bytes)) = some (some (.int .i64 0), 1, 8) := by kernel_rfl
section
variable {w w' : World} {B : Nat} {v vb : Value} {bs : List Nat} {k : Nat}
theorem ics_snoc (bs : List Nat) (k : Nat) : ics ((bs ++ [k]).map fun (j : Nat) => (j : Int)) = ics (bs.map fun (j : Nat) => (j : Int)) ++ [.int .i64 (k : Int)] := by simp [ics]
theorem RowB.append (h : RowB w B vb bs) (hB : B ≤ w.heap.size) (hn : bs.length ≤ 1000000) (ty : TypeId) (ad : Addr) (c : Nat) (hr : Reads w w.heap.size 1 (some ad) 1 [.int .i64 (k : Int)]) :
    ∃ v' w', (Builtin.append_ #[58, 58] ty #[vb, .slice (some ad) 1 c]).run Tryz.prog w = .ok v' w' ∧ RowB w' B v' (bs ++ [k]) ∧ w.grownBy w' vb.ownBlock := by
  obtain ⟨i0, hi0, hz0, hz1, hz2⟩ := info_parts info_int
  rcases h with h | ⟨g, off, cur, rfl, hBg, hg, hs, hc⟩
  · obtain ⟨v', w', h1, h2, h3, _⟩ := run_append_any (P := Tryz.prog) w B 58 ty 3 i0 _ 1 8 Tryz.underlying58 hi0 hz0 hz1 hz2 rfl (by omega) vb bs.length _ h _ _ 1 c _ hr (one_cell _ _) (by unfold maxLen; omega) (by omega) hB
    refine ⟨v', w', h1, Or.inl ?_, h3⟩
    rw [ics_snoc, List.length_append]
    exact h2
  · have holds : ∀ j u, (ics (bs.map fun (j : Nat) => (j : Int)))[j]? = some u → w.cell? ((⟨g, off, none⟩ : Addr).add j) = some u := fun j u hu => by
      obtain ⟨q, e, hq⟩ : ∃ q, bs[j]? = some q ∧ u = .int .i64 (q : Int) := by
        unfold ics at hu
        rw [List.getElem?_map, List.getElem?_map] at hu
        cases e : bs[j]? with
        | none => rw [e] at hu; cases hu
        | some q =>
          rw [e] at hu
          exact ⟨q, rfl, (Option.some.inj hu).symm⟩
      have h9 := hc j q e
      rw [hq]
      rw [show (⟨g, off, none⟩ : Addr).add j = ⟨g, off + j, none⟩ by unfold Addr.add; split <;> simp_all]
      exact h9
    obtain ⟨ad', e, _, hcell⟩ := hr.2 (by omega)
    injection e with e
    subst e
    have hsz : i0.size = 1 := hz1
    have hby : i0.bytes = 8 := hz2
    have hrun := run_append_grow (P := Tryz.prog) w 58 ty 3 i0 _ Tryz.underlying58 hi0 hz0 ⟨g, off, none⟩ bs.length bs.length (ics (bs.map fun (j : Nat) => (j : Int))) (by rw [hsz, ics_length, List.length_map]; omega) holds ad 1 c [.int .i64 (k : Int)] (by rw [hsz]; rfl) hcell (by omega) (by omega) (growslice_fits (by omega) (by rw [hby]; omega))
    have hge := grownCap_ge w (bs.length + 1) bs.length 3
    have hcm : grownCap w (bs.length + 1) bs.length 3 ≤ maxLen := grownCap_le_maxLen w (bs.length + 1) bs.length 3 (by unfold maxLen; omega)
    refine ⟨_, _, hrun, Or.inl ?_, ⟨rfl, rfl, rfl, by simp, fun k hk _ => heap_alloc_old w.drew _ hk⟩⟩
    rw [ics_snoc, List.length_append, List.length_singleton]
    refine ⟨by rw [List.length_append, ics_length, List.length_map, List.length_singleton]; omega, .inr ⟨w.heap.size, _, _, rfl, hB, heap_alloc_new w.drew _, hge, hcm, ?_, ?_⟩⟩
    · simp only [Array.size_append, List.size_toArray, size_zeroCells, ics_length, List.length_map, List.length_singleton]
      show bs.length + 1 + (grownCap w (bs.length + 1) bs.length 3 - (bs.length + 1)) * 1 = _
      omega
    · simp only [Array.toList_append, List.append_assoc]
      rw [← List.append_assoc]
      have e1 : (ics (bs.map fun (j : Nat) => (j : Int)) ++ [Value.int .i64 (k : Int)]).length = (bs.length + 1) * 1 := by rw [List.length_append, ics_length, List.length_map, List.length_singleton]; omega
      rw [← e1]
      exact List.take_left
theorem step_append_b {ops : Array Oper} {o : Oper} {a : Act} {K : Act → World → Prop} {Q : Exit → Act → World → Prop} {E : Prop} (hgd : o.guard = none) (s x : Operand)
    (ho : o.op = .call { callee := .builtin .append, args := #[s, x], argTypes := #[58, 58] })
    (hs : a.eval s = vb) (h : RowB w B vb bs) (hB : B ≤ w.heap.size) (hn : bs.length ≤ 1000000) (ad : Addr) (c : Nat) (hx : a.eval x = .slice (some ad) 1 c) (hr : Reads w w.heap.size 1 (some ad) 1 [.int .i64 (k : Int)])
    (hK : ∀ v' w', RowB w' B v' (bs ++ [k]) → w.grownBy w' vb.ownBlock → K (a.put o.dst v') w') :
    if Region.wanted o (yielded ops a.tmps) = true then Oper.wp Tryz.prog o a w K Q else E := by
  have hw : Region.wanted o (yielded ops a.tmps) = true := by simp [Region.wanted, hgd]
  rw [if_pos hw]
  obtain ⟨v', w', hrun, h2, h3⟩ := h.append hB hn o.type ad c hr
  unfold Oper.wp execOp
  simp only [ho, resolve, invoke, builtin, Sem.run_bind, Sem.run_pure, Result.andThen_ok, List.map_toArray, List.map_cons, List.map_nil, hs, hx, hrun]
  exact hK v' w' h2 h3
theorem drop_old {b n : Nat} {f : ByteArray → Option Value} (h : OwnTold w b n f) {t e : TypeId} (ht : Tryz.prog.underlying t = some (.map 9 e)) {nm : ByteArray} (hs : nm.size ≤ maxLen) (ty : TypeId) (ho : (f nm).isSome = true) :
    ∃ w', (Builtin.delete_ #[t, 9] ty #[.map (some b), .string nm]).run Tryz.prog w = .ok (.tuple #[]) w' ∧ OwnTold w' b (n - 1) (fun x => if nm = x then none else f x) ∧ w.mapTurned w' b := by
  obtain ⟨D, h1, h2, h3⟩ := h.sharp
  obtain ⟨w', r1, r2, r3⟩ := h1.drop keyed ht (key_ofS nm hs) ty
  refine ⟨w', r1, ?_, r3⟩
  obtain ⟨es, clock, e1, e2, e3, e4⟩ := r2
  have e5 := Maps.size_del (k := .string (bytesOf nm)) h2.1
  rw [h2.2.1 nm, ho, if_pos rfl, e4] at e5
  have e6 : Maps.size (DataW.map ((es.toList.map (WideElems.rg Tryz.prog 9 (valElem))).foldr DataW.insert [])) = es.size := by simp [Maps.size, length_sorted]
  exact ⟨_, ⟨es, clock, e1, e2, by omega, e4⟩, h2.del nm⟩
theorem step_delF {ops : Array Oper} {o : Oper} {a : Act} {K : Act → World → Prop} {Q : Exit → Act → World → Prop} {E : Prop} (hgd : o.guard = none) (m x : Operand) (t : TypeId)
    (ho : o.op = .call { callee := .builtin .delete, args := #[m, x], argTypes := #[t, 9] }) {e : TypeId} (ht : Tryz.prog.underlying t = some (.map 9 e)) (b n : Nat) (f : ByteArray → Option Value)
    (hm : a.eval m = .map (some b)) (hown : OwnTold w b n f) (nm : ByteArray) (hx : a.eval x = .string nm) (hs : nm.size ≤ maxLen) (hin : (f nm).isSome = true)
    (hK : ∀ w', OwnTold w' b (n - 1) (fun x => if nm = x then none else f x) → w.mapTurned w' b → K (a.put o.dst (.tuple #[])) w') :
    if Region.wanted o (yielded ops a.tmps) = true then Oper.wp Tryz.prog o a w K Q else E := by
  have hw : Region.wanted o (yielded ops a.tmps) = true := by simp [Region.wanted, hgd]
  rw [if_pos hw]
  obtain ⟨w', hrun, h2, h3⟩ := drop_old hown ht hs o.type hin
  unfold Oper.wp execOp
  simp only [ho, resolve, invoke, builtin, Sem.run_bind, Sem.run_pure, Result.andThen_ok, List.map_toArray, List.map_cons, List.map_nil, hm, hx, hrun]
  exact hK w' h2 h3
theorem RowN.beyond {l : List Ent} {ge n c j : Nat} (h : RowN w B (.slice (some ⟨ge, 0, none⟩) n c) l) (hl : l.length = n) (hj : n * 9 ≤ j) (u : Value) : RowN (w.setCell ⟨ge, j, none⟩ u) B (.slice (some ⟨ge, 0, none⟩) n c) l := by
  obtain ⟨rs, ⟨g1, g2⟩, g3⟩ := h
  rcases g2 with ⟨e, _⟩ | ⟨g, cap, cur, e1, e2, e3, e4, e5, e6, e7⟩
  · cases e
  · injection e1 with f1 f2 f3
    injection f1 with f1
    injection f1 with f1
    subst f1 f3
    have hb : Blk w ge 73 cur := e3
    have hw : w.grownBy (w.setCell ⟨ge, j, none⟩ u) (some ge) := only_setCell (p := ⟨ge, j, none⟩) (only_self w ge) (.inl rfl) _
    refine ⟨rs, ⟨g1, .inr ⟨ge, c, _, by rw [hl], e2, hb.set_ j u, e4, e5, by simpa using e6, ?_⟩⟩, g3.mono fun _ _ _ hs => insFar hs (farT_blk hb (by decide)) hw⟩
    rw [← e7, Array.toList_setIfInBounds, List.take_set_of_le (by rw [hl]; exact hj)]
theorem lastV_pop {l : List Ent} {i : Nat} {e : Ent} (h : l[i]? = some e) (hl : l.length = i + 1) (x : ByteArray) : lastV (l.take i) x = if e.term.name = x then (if lastNo (l.take i) e.term.name = 0 then none else some (.int .i64 (lastNo (l.take i) e.term.name : Int))) else lastV l x := by
  unfold lastV
  rw [lastF_pop h]
  have e1 : l.take (i + 1) = l := List.take_of_length_le (by omega)
  rw [e1]
  by_cases g : e.term.name = x
  · rw [if_pos g, if_pos g]
    split <;> rfl
  · rw [if_neg g, if_neg g]
theorem lastV_put (l : List Ent) (e : Ent) (x : ByteArray) : lastV (l ++ [e]) x = if e.term.name = x then some (.int .i64 ((l.length + 1 : Nat) : Int)) else lastV l x := by
  unfold lastV
  rw [lastF_put]
  by_cases g : e.term.name = x
  · rw [if_pos g, if_pos g]; rfl
  · rw [if_neg g, if_neg g]
theorem lastV_some {l : List Ent} {x : ByteArray} : (lastV l x).isSome = true ↔ lastNo l x ≠ 0 := by
  unfold lastV lastF
  split
  · rename_i h; simp [h]
  · rename_i h; simp [h]
theorem only_bothR {w0 w1 w2 : World} {row : Option Nat} (h : w0.grownBy w1 row) (k : w1.grownBy w2 row) : w0.grownBy w2 row :=
  ⟨k.os.trans h.os, k.tape.trans h.tape, k.output.trans h.output, Nat.le_trans h.size k.size, fun i hi hne => (k.block i (Nat.lt_of_lt_of_le hi h.size) hne).trans (h.block i hi hne)⟩
theorem keeps_cells {r : Nat} {cur : Array Value} {T : TypeId} (hg : w.grownBy w' (some r)) (hr : B ≤ r) (hb : Blk w r T cur) (hT : TrS T) : Keeps TrS B w w' :=
  ⟨⟨hg.os, hg.tape, hg.output, hg.size, fun k hk => hg.block k (by have := hb.lt; omega) (fun e => by injection e with e; omega)⟩, fun g' cur' T' m hg' hT' => hg.block g' (Array.getElem?_eq_some_iff.1 hg').1 (fun e => by
    injection e with e
    subst e
    rw [show w.heap[g']? = some (.cells cur T (0, 0)) from hb] at hg'
    injection hg' with hg'
    injection hg' with _ e _
    exact hT' (e ▸ hT))⟩
theorem keeps_map {b n : Nat} {f : ByteArray → Option Value} (hg : w.grownBy w' (some b)) (hr : B ≤ b) (hT : OwnTold w b n f) : Keeps TrS B w w' :=
  ⟨⟨hg.os, hg.tape, hg.output, hg.size, fun k hk => hg.block k (by have := hT.lt; omega) (fun e => by injection e with e; omega)⟩, fun g' cur' T' m hg' hT' => hg.block g' (Array.getElem?_eq_some_iff.1 hg').1 (fun e => by
    injection e with e
    subst e
    obtain ⟨es, clock, hb⟩ := hT.block
    rw [hb] at hg'
    cases hg')⟩
theorem farT_told {b n : Nat} {f : ByteArray → Option Value} (T : TypeId) (hT : OwnTold w b n f) : FarT w T (some b) := fun g cur m h e => by
  injection e with e
  subst e
  obtain ⟨es, clock, hb⟩ := hT.block
  rw [hb] at h
  cases h
theorem told_ne {b n r : Nat} {f : ByteArray → Option Value} {cur : Array Value} {T : TypeId} (hT : OwnTold w b n f) (hb : Blk w r T cur) : b ≠ r := fun e => by
  subst e
  obtain ⟨es, clock, h⟩ := hT.block
  have hb : w.heap[b]? = some (.cells cur T (0, 0)) := hb
  rw [h] at hb
  cases hb
theorem blk_ne {r r' : Nat} {cur cur' : Array Value} {T T' : TypeId} (h : Blk w r T cur) (h' : Blk w r' T' cur') (hT : T ≠ T') : r ≠ r' := fun e => by
  subst e
  have h : w.heap[r]? = some (.cells cur T (0, 0)) := h
  have h' : w.heap[r]? = some (.cells cur' T' (0, 0)) := h'
  rw [h] at h'
  injection h' with h'
  injection h' with _ h' _
  exact hT h'
end
end Go.Proofs.YtllogmokadcfmaaGreat.Trail
/-
  The contract of the program's pop: the last entry is taken away. Condition: names of at most 1,000,000,000 bytes, at most 1000 entries.
-/
namespace Go.Proofs.YtllogmokadcfmaaGreat.Trail
open Go Go.RowKit Go.Lib Go.Proofs.YtllogmokadcfmaaGreat.Span Go.Proofs.YtllogmokadcfmaaGreat.Need Go.Proofs.YtllogmokadcfmaaGreat.Mani Go.Proofs.YtllogmokadcfmaaGreat.Grow Go.Proofs.YtllogmokadcfmaaGreat.Term
open Go.Proofs.YtllogmokadcfmaaGreat.MapV (OwnTold)
set_option linter.unusedVariables false
section
variable {w : World} {B : Nat} {v : Value} {l : List Ent} {bs : List Nat}
set_option maxHeartbeats 8000000 in
set_option maxRecDepth 100000 in
theorem popTr_any {n : Nat} (h : TrQ w B v l bs) (hl : l.length = n + 1) (hn : n ≤ 1000) (hnm : ∀ e ∈ l, e.term.name.size ≤ 1000000000) :
    Calls Tryz.prog 30 #[v] w fun e w' => e = .returned (.tuple #[]) ∧ TrQ w' B v (l.take n) bs ∧ Keeps TrS B w w' := by
  obtain ⟨g, ve, vb, mo, rfl, hB, h1, h2, h3, h4⟩ := h
  obtain ⟨q, hq⟩ : ∃ q, l[n]? = some q := ⟨_, List.getElem?_eq_getElem (by omega)⟩
  have hs : q.term.name.size ≤ maxLen := by have := hnm q (List.mem_of_getElem? hq); unfold maxLen; omega
  have hin : (lastV l q.term.name).isSome = true := lastV_some.2 (last_pos hq)
  have hpop : ∀ x, lastV (l.take n) x = if q.term.name = x then (if lastNo (l.take n) q.term.name = 0 then none else some (.int .i64 (lastNo (l.take n) q.term.name : Int))) else lastV l x := fun x => lastV_pop hq hl x
  have hcnt : cntN l = cntN (l.take n) + (if lastNo (l.take n) q.term.name = 0 then 1 else 0) := by
    have := cnt_snoc (l.take n) q
    rwa [← snoc_of hq hl] at this
  have hcl := cnt_le (l.take n)
  rw [List.length_take] at hcl
  rcases h4 with ⟨_, e⟩ | ⟨b, m, rfl, hBb, hm, hT⟩
  · rw [e] at hl; cases hl
  obtain ⟨ge, ce, A, na, ca, A2, n2, ca2, rfl, hle, hBe, hge, ⟨cur, hbe, hcs⟩, _, _, _, _, c0, c1, c2, c3, c4, c5, c6, c7, c8⟩ := h2.at_ hq
  rw [hl] at h1 h2 hle
  have hgge := blk_ne h1 hbe (by decide)
  have hbg := told_ne hT h1
  have hbge := told_ne hT hbe
  have hgw := h1.lt
  obtain ⟨W, hW⟩ : ∃ W, W = w.alloc (.cells #[.string q.term.name, .slice A na ca, .bool q.term.none, .int .i64 (q.level : Int), .int .i64 q.cause, .int .i64 (lastNo (l.take n) q.term.name : Int), .string q.term.name, .slice A2 n2 ca2, .bool (knowL (l.take (n + 1)) q.term.name).none] 73) := ⟨_, rfl⟩
  have hbW : Below w.heap.size w W := by rw [hW]; exact alloc_b _
  have bq : Blk W w.heap.size 73 #[.string q.term.name, .slice A na ca, .bool q.term.none, .int .i64 (q.level : Int), .int .i64 q.cause, .int .i64 (lastNo (l.take n) q.term.name : Int), .string q.term.name, .slice A2 n2 ca2, .bool (knowL (l.take (n + 1)) q.term.name).none] := by rw [hW]; exact Blk.new _ _ _
  have h1W := h1.below hbW h1.lt
  have h2W := h2.below hbW
  have h3W := h3.below hbW
  have hTW := hT.below hbW
  have hbeW := hbe.below hbW hbe.lt
  have hWs := hbW.size
  have q0 := (bq.cell 0).trans (show _ = some (Value.string q.term.name) from rfl)
  have q5 := (bq.cell 5).trans (show _ = some (Value.int .i64 (lastNo (l.take n) q.term.name : Int)) from rfl)
  have k0 := (h1.cell 0).trans (show _ = some (Value.slice (some ⟨ge, 0, none⟩) (n + 1) ce) from rfl)
  have k2 := (h1W.cell 2).trans (show _ = some (Value.map (some b)) from rfl)
  have hn1 : ((n + 1 : Nat) : Int) - 1 = (n : Int) := by omega
  have hin0 : (n : Int) < ((n + 1 : Nat) : Int) := by omega
  have hin1 : (0 : Int) ≤ (n : Int) := by omega
  have hin2 : (n : Int) ≤ (ce : Int) := by omega
  have HL := hide hl
  have Hcl := hide hcl
  have HP := hide hpop
  have Hcnt := hide hcnt
  have Hm := hide hm
  have HB := hide (⟨hB, hBb, hBe⟩ : B ≤ g ∧ B ≤ b ∧ B ≤ ge)
  have Hcells := hide (⟨c0, c1, c2, c3, c4, c5, c6, c7, c8⟩ : _ ∧ _ ∧ _ ∧ _ ∧ _ ∧ _ ∧ _ ∧ _ ∧ _)
  have hin3 := hide hin
  generalize hKz : (knowL (l.take (n + 1)) q.term.name).none = Kz at *
  clear hKz hpop hcnt hm hB hBb hBe hq hnm hT h2 h3 hl hcl hin
  generalize lastNo (l.take n) q.term.name = L1 at *
  go_enter Tryz.func30, Tryz.ntmps30
  go_upto_region 2 with fail
  try rw [← hW]
  clear hW c0 c1 c2 c3 c4 c5 c6 c7 c8 k0
  have hkd : Below W.heap.size W W.drew := (Below.refl _ _).drew
  by_cases hz : L1 = 0
  · subst hz
    go_upto_region 3 with fail
    go_region_law (
      refine step_delF rfl (.tmp 23) (.tmp 27) _ rfl Tryz.underlying59 b m (lastV l) rfl (OwnTold.below hTW hkd) q.term.name rfl hs hin3.out ?_
      intro w9 hT9x ht9
      have hT9 : OwnTold w9 b (m - 1) (lastV (l.take n)) := hT9x.congr fun x => by rw [HP.out x, if_pos rfl]
      have hm9 : m - 1 ≤ cntN (l.take n) := by have h1 := Hm.out; have h2 := Hcnt.out; rw [if_pos rfl] at h2; omega
      clear hT9x
      have hg9W : W.grownBy w9 (some b) := only_bothR (only_of_below hkd _) ht9.grown
      have h19 := h1W.grown hg9W (fun e => by injection e with e; exact hbg e.symm)
      have hbe9 := hbeW.grown hg9W (fun e => by injection e with e; exact hbge e.symm)
      have h29 : RowN w9 B (.slice (some ⟨ge, 0, none⟩) n ce) (l.take n) := (h2W.far (farT_told _ hTW) (farT_told _ hTW) hg9W).cut HL.out (by omega)
      have h39 := h3W.far (farT_told _ hTW) hg9W
      have kW9 := keeps_map hg9W HB.out.2.1 hTW
      have hc9 : ∀ j, w9.cell? ⟨ge, j, none⟩ = w.cell? ⟨ge, j, none⟩ := fun j => (World.cell?_of_block (hg9W.block ge hbeW.lt (fun e => by injection e with e; exact hbge e.symm))).trans (World.cell?_of_block (hbW.block ge hge))
      obtain ⟨c0, c1, c2, c3, c4, c5, c6, c7, c8⟩ := Hcells.out
      rw [← hc9] at c0 c1 c2 c3 c4 c5 c6 c7 c8
      have f0 := hbe9.frozen (n * 9)
      have f1 := hbe9.frozen (n * 9 + 1)
      have f2 := hbe9.frozen (n * 9 + 2)
      have f3 := hbe9.frozen (n * 9 + 3)
      have f4 := hbe9.frozen (n * 9 + 4)
      have f5 := hbe9.frozen (n * 9 + 5)
      have f6 := hbe9.frozen (n * 9 + 6)
      have f7 := hbe9.frozen (n * 9 + 7)
      have f8 := hbe9.frozen (n * 9 + 8)
      have fg := h19.frozen 0
      have hi1 : (n : Int) ≤ ((n + 1 : Nat) : Int) := by omega
      have k9 := (h19.cell 0).trans (show _ = some (Value.slice (some ⟨ge, 0, none⟩) (n + 1) ce) from rfl)
      clear hc9)
    all_goals (
      try go_wp2
      obtain ⟨W5, hW5⟩ : ∃ W5, W5 = (((((((((w9.setCell ⟨ge, n * 9, none⟩ (.string ⟨#[]⟩)).setCell ⟨ge, n * 9 + 1, none⟩ (.slice none 0 0)).setCell ⟨ge, n * 9 + 2, none⟩ (.bool false)).setCell ⟨ge, n * 9 + 3, none⟩ (.int .i64 0)).setCell ⟨ge, n * 9 + 4, none⟩ (.int .i64 0)).setCell ⟨ge, n * 9 + 5, none⟩ (.int .i64 0)).setCell ⟨ge, n * 9 + 6, none⟩ (.string ⟨#[]⟩)).setCell ⟨ge, n * 9 + 7, none⟩ (.slice none 0 0)).setCell ⟨ge, n * 9 + 8, none⟩ (.bool false)) := ⟨_, rfl⟩
      have hlt : (l.take n).length = n := by rw [List.length_take]; have := HL.out; omega
      have h25 : RowN W5 B (.slice (some ⟨ge, 0, none⟩) n ce) (l.take n) := by
        rw [hW5]
        exact ((((((((h29.beyond hlt (by omega) _).beyond hlt (by omega) _).beyond hlt (by omega) _).beyond hlt (by omega) _).beyond hlt (by omega) _).beyond hlt (by omega) _).beyond hlt (by omega) _).beyond hlt (by omega) _).beyond hlt (by omega) _
      have hg5 : w9.grownBy W5 (some ge) := by
        rw [hW5]
        exact only_setCell (only_setCell (only_setCell (only_setCell (only_setCell (only_setCell (only_setCell (only_setCell (only_setCell (only_self w9 ge) (.inl rfl) _) (.inl rfl) _) (.inl rfl) _) (.inl rfl) _) (.inl rfl) _) (.inl rfl) _) (.inl rfl) _) (.inl rfl) _) (.inl rfl) _
      have h15 := h19.grown hg5 (fun e => by injection e with e; exact hgge e)
      have h35 := h39.far (farT_blk hbe9 (by decide)) hg5
      have hT5 := hT9.kept hg5 (fun e => by injection e with e; exact hbge e)
      have kW5 := keeps_cells hg5 HB.out.2.2 hbe9 (.inr (.inl rfl))
      have k50 := (h15.cell 0).trans (show _ = some (Value.slice (some ⟨ge, 0, none⟩) (n + 1) ce) from rfl)
      have f50 := h15.frozen 0
      have hg6 : W5.grownBy (W5.setCell ⟨g, 0, none⟩ (.slice (some ⟨ge, 0, none⟩) n ce)) (some g) := only_setCell (p := ⟨g, 0, none⟩) (only_self W5 g) (.inl rfl) _
      have hT6 := hT5.kept hg6 (fun e => by injection e with e; exact hbg e)
      have kk := (((Keeps.of_below (TS := TrS) hbW (by have := HB.out.1; omega)).trans kW9).trans kW5).trans (keeps_cells hg6 HB.out.1 h15 (.inl rfl))
      have hl2 : (l.take n).length = n := by rw [List.length_take]; have := HL.out; omega
      refine bodyPost_end (results_none rfl _ _ _) rfl ?_
      rw [← hW5]
      exact ⟨rfl, ⟨g, _, _, _, rfl, HB.out.1, h15.set_ 0 _, h25.far (farT_blk h15 (by decide)) (farT_blk h15 (by decide)) hg6, h35.far (farT_blk h15 (by decide)) hg6, .inr ⟨b, _, rfl, HB.out.2.1, hm9, hT6⟩⟩, kk⟩)
  · have hz1 : ¬ ((L1 : Int) = 0) := by omega
    obtain ⟨w9, hrun9, hT9x, ht9⟩ := OwnTold.put_old (OwnTold.below hTW hkd) Tryz.underlying59 (by have h1 := Hm.out; have h2 := Hcnt.out; rw [if_neg hz] at h2; have := Hcl.out; unfold maxLen; omega) hs (.int .i64 (L1 : Int)) hin3.out
    have hT9 : OwnTold w9 b m (lastV (l.take n)) := hT9x.congr fun x => by rw [HP.out x, if_neg hz]
    have hm9 : m ≤ cntN (l.take n) := by have h1 := Hm.out; have h2 := Hcnt.out; rw [if_neg hz] at h2; omega
    clear hT9x
    have hg9W : W.grownBy w9 (some b) := only_bothR (only_of_below hkd _) ht9.grown
    have h19 := h1W.grown hg9W (fun e => by injection e with e; exact hbg e.symm)
    have hbe9 := hbeW.grown hg9W (fun e => by injection e with e; exact hbge e.symm)
    have h29 : RowN w9 B (.slice (some ⟨ge, 0, none⟩) n ce) (l.take n) := (h2W.far (farT_told _ hTW) (farT_told _ hTW) hg9W).cut HL.out (by omega)
    have h39 := h3W.far (farT_told _ hTW) hg9W
    have kW9 := keeps_map hg9W HB.out.2.1 hTW
    have hc9 : ∀ j, w9.cell? ⟨ge, j, none⟩ = w.cell? ⟨ge, j, none⟩ := fun j => (World.cell?_of_block (hg9W.block ge hbeW.lt (fun e => by injection e with e; exact hbge e.symm))).trans (World.cell?_of_block (hbW.block ge hge))
    obtain ⟨c0, c1, c2, c3, c4, c5, c6, c7, c8⟩ := Hcells.out
    rw [← hc9] at c0 c1 c2 c3 c4 c5 c6 c7 c8
    have f0 := hbe9.frozen (n * 9)
    have f1 := hbe9.frozen (n * 9 + 1)
    have f2 := hbe9.frozen (n * 9 + 2)
    have f3 := hbe9.frozen (n * 9 + 3)
    have f4 := hbe9.frozen (n * 9 + 4)
    have f5 := hbe9.frozen (n * 9 + 5)
    have f6 := hbe9.frozen (n * 9 + 6)
    have f7 := hbe9.frozen (n * 9 + 7)
    have f8 := hbe9.frozen (n * 9 + 8)
    have fg := h19.frozen 0
    have hi1 : (n : Int) ≤ ((n + 1 : Nat) : Int) := by omega
    have k9 := (h19.cell 0).trans (show _ = some (Value.slice (some ⟨ge, 0, none⟩) (n + 1) ce) from rfl)
    clear hc9
    go_upto_region 4 with fail
    go_region
    try go_wp2
    obtain ⟨W5, hW5⟩ : ∃ W5, W5 = (((((((((w9.setCell ⟨ge, n * 9, none⟩ (.string ⟨#[]⟩)).setCell ⟨ge, n * 9 + 1, none⟩ (.slice none 0 0)).setCell ⟨ge, n * 9 + 2, none⟩ (.bool false)).setCell ⟨ge, n * 9 + 3, none⟩ (.int .i64 0)).setCell ⟨ge, n * 9 + 4, none⟩ (.int .i64 0)).setCell ⟨ge, n * 9 + 5, none⟩ (.int .i64 0)).setCell ⟨ge, n * 9 + 6, none⟩ (.string ⟨#[]⟩)).setCell ⟨ge, n * 9 + 7, none⟩ (.slice none 0 0)).setCell ⟨ge, n * 9 + 8, none⟩ (.bool false)) := ⟨_, rfl⟩
    have hlt : (l.take n).length = n := by rw [List.length_take]; have := HL.out; omega
    have h25 : RowN W5 B (.slice (some ⟨ge, 0, none⟩) n ce) (l.take n) := by
      rw [hW5]
      exact ((((((((h29.beyond hlt (by omega) _).beyond hlt (by omega) _).beyond hlt (by omega) _).beyond hlt (by omega) _).beyond hlt (by omega) _).beyond hlt (by omega) _).beyond hlt (by omega) _).beyond hlt (by omega) _).beyond hlt (by omega) _
    have hg5 : w9.grownBy W5 (some ge) := by
      rw [hW5]
      exact only_setCell (only_setCell (only_setCell (only_setCell (only_setCell (only_setCell (only_setCell (only_setCell (only_setCell (only_self w9 ge) (.inl rfl) _) (.inl rfl) _) (.inl rfl) _) (.inl rfl) _) (.inl rfl) _) (.inl rfl) _) (.inl rfl) _) (.inl rfl) _) (.inl rfl) _
    have h15 := h19.grown hg5 (fun e => by injection e with e; exact hgge e)
    have h35 := h39.far (farT_blk hbe9 (by decide)) hg5
    have hT5 := hT9.kept hg5 (fun e => by injection e with e; exact hbge e)
    have kW5 := keeps_cells hg5 HB.out.2.2 hbe9 (.inr (.inl rfl))
    have k50 := (h15.cell 0).trans (show _ = some (Value.slice (some ⟨ge, 0, none⟩) (n + 1) ce) from rfl)
    have f50 := h15.frozen 0
    have hg6 : W5.grownBy (W5.setCell ⟨g, 0, none⟩ (.slice (some ⟨ge, 0, none⟩) n ce)) (some g) := only_setCell (p := ⟨g, 0, none⟩) (only_self W5 g) (.inl rfl) _
    have hT6 := hT5.kept hg6 (fun e => by injection e with e; exact hbg e)
    have kk := (((Keeps.of_below (TS := TrS) hbW (by have := HB.out.1; omega)).trans kW9).trans kW5).trans (keeps_cells hg6 HB.out.1 h15 (.inl rfl))
    have hl2 : (l.take n).length = n := by rw [List.length_take]; have := HL.out; omega
    refine bodyPost_end (results_none rfl _ _ _) rfl ?_
    rw [← hW5]
    exact ⟨rfl, ⟨g, _, _, _, rfl, HB.out.1, h15.set_ 0 _, h25.far (farT_blk h15 (by decide)) (farT_blk h15 (by decide)) hg6, h35.far (farT_blk h15 (by decide)) hg6, .inr ⟨b, _, rfl, HB.out.2.1, hm9, hT6⟩⟩, kk⟩
end
end Go.Proofs.YtllogmokadcfmaaGreat.Trail
/-
  The contract of the program's Back: the entries of a greater level go, one by one; the row of beginnings is cut. Condition: at most 1000 entries.
-/
namespace Go.Proofs.YtllogmokadcfmaaGreat.Trail
open Go Go.RowKit Go.Lib Go.Proofs.YtllogmokadcfmaaGreat.Span Go.Proofs.YtllogmokadcfmaaGreat.Need Go.Proofs.YtllogmokadcfmaaGreat.Mani Go.Proofs.YtllogmokadcfmaaGreat.Grow Go.Proofs.YtllogmokadcfmaaGreat.Term
set_option linter.unusedVariables false
def lenAt (w : World) (g : Nat) : Nat := match w.cell? ⟨g, 0, none⟩ with
  | some (.slice _ n _) => n
  | _ => 0
section
variable {w w' : World} {B g : Nat} {v : Value} {x : Tr} {l : List Ent} {bs : List Nat}
theorem TrQ.lenAt (h : TrQ w B (.pointer (some ⟨g, 0, none⟩)) l bs) : Trail.lenAt w g = l.length := by
  obtain ⟨g', ve, vb, mo, e, hB, h1, h2, h3, h4⟩ := h
  injection e with e
  injection e with e
  injection e with e
  subst e
  obtain ⟨A, c, rfl, _, _⟩ := h2.form
  unfold Trail.lenAt
  rw [h1.cell 0]
  rfl
theorem TrQ.reads (h : TrQ w B (.pointer (some ⟨g, 0, none⟩)) l bs) {K i : Nat} (hi : bs[K]? = some i) : g < w.heap.size ∧ B ≤ g ∧ ∃ A c gb off cb, w.cell? ⟨g, 0, none⟩ = some (.slice A l.length c) ∧ w.cell? ⟨g, 1, none⟩ = some (.slice (some ⟨gb, off, none⟩) bs.length cb) ∧ bs.length ≤ cb ∧ gb < w.heap.size ∧ w.cell? ⟨gb, off + K, none⟩ = some (.int .i64 (i : Int)) ∧ w.frozen? ⟨g, 1, none⟩ = false := by
  obtain ⟨g', ve, vb, mo, e, hB, h1, h2, h3, h4⟩ := h
  injection e with e
  injection e with e
  injection e with e
  subst e
  obtain ⟨A, c, rfl, _, _⟩ := h2.form
  obtain ⟨A2, c2, rfl, hc2, hr⟩ := h3.form
  have hK := (List.getElem?_eq_some_iff.1 hi).1
  obtain ⟨gb, off, rfl, hgb, hcell⟩ := hr (by omega)
  exact ⟨h1.lt, hB, A, c, gb, off, c2, (h1.cell 0).trans rfl, (h1.cell 1).trans rfl, hc2, hgb, hcell K i hi, h1.frozen 1⟩
theorem TrQ.cutB (h : TrQ w B (.pointer (some ⟨g, 0, none⟩)) l bs) {A : Option Addr} {n c K : Nat} (hc : w.cell? ⟨g, 1, none⟩ = some (.slice A n c)) (hK : K < bs.length) : TrQ (w.setCell ⟨g, 1, none⟩ (.slice A K K)) B (.pointer (some ⟨g, 0, none⟩)) l (bs.take K) ∧ Keeps TrS B w (w.setCell ⟨g, 1, none⟩ (.slice A K K)) := by
  obtain ⟨g', ve, vb, mo, e, hB, h1, h2, h3, h4⟩ := h
  injection e with e
  injection e with e
  injection e with e
  subst e
  have e1 : vb = .slice A n c := by
    rw [h1.cell 1] at hc
    exact Option.some.inj hc
  subst e1
  have hg : w.grownBy (w.setCell ⟨g, 1, none⟩ (.slice A K K)) (some g) := only_setCell (p := ⟨g, 1, none⟩) (only_self w g) (.inl rfl) _
  exact ⟨⟨g, _, _, mo, rfl, hB, h1.set_ 1 _, h2.far (farT_blk h1 (by decide)) (farT_blk h1 (by decide)) hg, (h3.cut (Nat.le_of_lt hK) (by omega)).far (farT_blk h1 (by decide)) hg, h4.cells h1 hg⟩, keeps_cells hg hB h1 (.inl rfl)⟩
set_option maxHeartbeats 8000000 in
set_option maxRecDepth 100000 in
theorem backTr_any (k : Int) (h : TrP w B v x) (hl : x.l.length ≤ 1000) :
    Calls Tryz.prog 12 #[v, .int .i64 k] w fun e w' => e = .returned (.tuple #[]) ∧ TrP w' B v (backT x k) ∧ Keeps TrS B w w' := by
  obtain ⟨K, hK⟩ : ∃ K : Nat, max k 0 = (K : Int) := ⟨(max k 0).toNat, by omega⟩
  obtain ⟨R, hR⟩ : ∃ R, backT x k = R := ⟨_, rfl⟩
  have hR2 : (if x.level ≤ K then x else ⟨upTo x.l K, K⟩) = R := by
    rw [← hR]
    unfold backT
    rw [hK, Int.toNat_natCast]
  rw [hR]
  have HL := hide (fun (wx : World) (hx : wx = w) => (by rw [hx]; exact levelTr_any h : Calls Tryz.prog 10 #[v] wx fun e w' => e = .returned (.int .i64 (x.level : Int)) ∧ wx = w'))
  obtain ⟨Lv, hLv⟩ : ∃ Lv : Int, (x.level : Int) = Lv := ⟨_, rfl⟩
  rw [hLv] at HL
  obtain ⟨g0, rfl, hgl, hBg, _⟩ := h.ahead
  by_cases hlv : x.level ≤ K
  · rw [if_pos hlv] at hR2
    subst hR2
    have e1 : Lv ≤ max k 0 := by omega
    clear hR hK hlv hLv
    go_enter Tryz.func12, Tryz.ntmps12
    go_wp2_with (first
      | (go_at_call 10
         refine (HL.out _ rfl).mono ?_
         rintro e w1 ⟨rfl, rfl⟩))
    refine bodyPost_ret (results_none rfl _ _ _) rfl ?_
    exact ⟨rfl, h, Keeps.of_below (Below.refl _ _) (by omega)⟩
  · rw [if_neg hlv] at hR2
    obtain ⟨bs, hq, h5⟩ := h.q
    have hbl := h5.beg.len
    obtain ⟨i, hi⟩ : ∃ i, bs[K]? = some i := ⟨_, List.getElem?_eq_getElem (by omega)⟩
    obtain ⟨c1, c2, c3, c4⟩ := h5.beg.cut hi
    rw [c1] at hR2
    have hokR : OkL R (bs.take K) := by
      rw [← hR2]
      exact ⟨c2, h5.dec.take i, fun e he => h5.names e (List.mem_of_mem_take he)⟩
    have hRl : R.l = x.l.take i := by rw [← hR2]
    have hnm := h5.names
    have e1 : ¬ Lv ≤ max k 0 := by omega
    clear hLv
    have hKb : K < bs.length := by omega
    have Hlen := hide hl
    have HokR := hide hokR
    have HRl := hide hRl
    have Hnm := hide hnm
    have Hi := hide hi
    have Hil := hide c3
    have Hq := hide hq
    have HK := hide hK
    clear h h5 hR2 hbl c1 c2 c4 hokR hRl hnm hlv hi hl hq hR
    clear c3
    go_enter Tryz.func12, Tryz.ntmps12
    clear hK
    go_upto_region 2 with (first
      | (go_at_call 10
         refine (HL.out _ rfl).mono ?_
         rintro e w1 ⟨rfl, rfl⟩))
    try rw [HK.out]
    go_loopw [] (fun wr => ∃ n : Nat, i ≤ n ∧ Hid (n ≤ x.l.length) ∧ Hid (TrQ wr B (.pointer (some ⟨g0, 0, none⟩)) (x.l.take n) bs) ∧ Hid (Keeps TrS B w wr)) (fun wr => Trail.lenAt wr g0)
    case atStart => exact ⟨x.l.length, Nat.le_of_lt Hil.out, hide (Nat.le_refl _), hide (by rw [List.take_length]; exact Hq.out), hide (Keeps.of_below (Below.refl _ _) (by omega))⟩
    case round =>
      obtain ⟨n, hin, hnl, hq, hkp⟩ := hrel
      have hlt9 : (x.l.take n).length = n := by rw [List.length_take]; have := hnl.out; omega
      obtain ⟨hgw, _, A, c, gb, off, cb, k0, k1, hcb, hgb, ke, fe⟩ := hq.out.reads Hi.out
      rw [hlt9] at k0
      have i1 : (0 : Int) ≤ (K : Int) := by omega
      have i2 : (K : Int) < (bs.length : Int) := by omega
      have Hlt9 := hide hlt9
      clear hlt9
      by_cases hlt : i < n
      · obtain ⟨m, rfl⟩ : ∃ m, n = m + 1 := ⟨n - 1, by omega⟩
        have hc1 : ((m + 1 : Nat) : Int) > (i : Int) := by omega
        have HP := hide (fun (wx : World) (hb : Below wr.heap.size wr wx) => popTr_any (n := m) (hq.out.below hb) Hlt9.out (by have := Hlen.out; have := hnl.out; omega) (fun e he => Hnm.out e (List.mem_of_mem_take he)))
        have hmeas : Trail.lenAt wr g0 = m + 1 := by rw [hq.out.lenAt]; exact Hlt9.out
        have Hmeas := hide hmeas
        clear hmeas
        go_upto_region 2 with fail
        go_quiet (fail)
        go_wp2_with (first
          | (go_at_call 30
             refine (HP.out _ (below_drewN (Below.refl _ _) _)).mono ?_
             rintro e w1 ⟨rfl, hq1, hk1⟩
             rw [List.take_take, Nat.min_eq_left (Nat.le_succ m)] at hq1
             have hk2 := hide (hkp.out.trans ((Keeps.of_below (below_drewN (Below.refl _ _) _) (by omega)).trans hk1))
             have hq2 := hide hq1
             have hl2 := hide hq1.lenAt
             clear hk1 hq1))
        go_roundw
        case rel => exact ⟨m, by omega, hide (by have := hnl.out; omega), hq2, hk2⟩
        case measure => rw [hl2.out, Hmeas.out, List.length_take]; have := hnl.out; omega
      · have hc1 : ¬ (n : Int) > (i : Int) := by omega
        have e : n = i := by omega
        have HC := hide (fun (wx : World) (hb : Below wr.heap.size wr wx) => TrQ.cutB (hq.out.below hb) ((hb.cell (show (⟨g0, 1, none⟩ : Addr).block < _ from hgw)).trans k1) hKb)
        have i3 : (K : Int) ≤ (cb : Int) := by omega
        have i4 : (K : Int) ≤ (K : Int) := by omega
        go_upto_region 2 with fail
        go_quiet (fail)
        go_wp2
        refine bodyPost_end (results_none rfl _ _ _) rfl ?_
        obtain ⟨z1, z2⟩ := HC.out (wr.drewN nq) (below_drewN (Below.refl _ _) _)
        refine ⟨rfl, ?_, hkp.out.trans ((Keeps.of_below (below_drewN (Below.refl _ _) _) (by omega)).trans z2)⟩
        rw [e, ← HRl.out] at z1
        exact z1.p HokR.out
set_option maxHeartbeats 2000000 in
set_option maxRecDepth 100000 in
theorem backTr_nil (k : Int) (w : World) : Calls Tryz.prog 12 #[.pointer none, .int .i64 k] w fun e w' => e = .returned (.tuple #[]) ∧ Below w.heap.size w w' := by
  have HL := hide (levelTr_nil w)
  have e1 : (0 : Int) ≤ max k 0 := by omega
  go_enter Tryz.func12, Tryz.ntmps12
  go_wp2_with (first
    | (go_at_call 10
       refine HL.out.mono ?_
       rintro e w1 ⟨rfl, rfl⟩))
  refine bodyPost_ret (results_none rfl _ _ _) rfl ?_
  exact ⟨rfl, Below.refl _ _⟩
end
end Go.Proofs.YtllogmokadcfmaaGreat.Trail
/-
  The contracts of the program's since and First: by how many entries a term is known, and a clash. Condition: names of at most 1,000,000,000 bytes, at most 1000 entries, sets that may be.
-/
namespace Go.Proofs.YtllogmokadcfmaaGreat.Trail
open Go Go.RowKit Go.Lib Go.Proofs.YtllogmokadcfmaaGreat.Span Go.Proofs.YtllogmokadcfmaaGreat.Need Go.Proofs.YtllogmokadcfmaaGreat.Mani Go.Proofs.YtllogmokadcfmaaGreat.Grow Go.Proofs.YtllogmokadcfmaaGreat.Term Go.Proofs.YtllogmokadcfmaaGreat.Clash
set_option linter.unusedVariables false
def TellsN (w : World) (l : List Ent) (t : Tm) (e : Ending) (w' : World) : Prop := ∃ r : Int, e = .returned (.int .i64 r) ∧ SinceOk l t r ∧ Below w.heap.size w w'
section
variable {w : World} {B : Nat} {v : Value} {x : Tr}
set_option maxHeartbeats 8000000 in
set_option maxRecDepth 100000 in
theorem sinceTr_any (t : Tm) (A : Option Addr) (n c : Nat) (h : TrP w B v x) (hs : SmallE x.l) (hl : x.l.length ≤ 1000) (ht : SpOn w A n t.set) (hnm : t.name.size ≤ 1000000000) (hset : isSet (-1) t.set = true) :
    Calls Tryz.prog 41 #[v, .agg #[.string t.name, .slice A n c, .bool t.none]] w (TellsN w x.l t) := by
  obtain ⟨Kf, hKf⟩ : ∃ Kf : Nat → Tm, ∀ i, knowL (x.l.take i) t.name = Kf i := ⟨_, fun _ => rfl⟩
  obtain ⟨Wf, hWf⟩ : ∃ Wf : Nat → Bool, ∀ i, inAt x.l t i = Wf i := ⟨_, fun _ => rfl⟩
  have HF := hide (fun (wx : World) (hb : Below w.heap.size w wx) => findTr_any t.name (h.below hb) hnm)
  have HKn := hide (fun (wx : World) (hb : Below w.heap.size w wx) (i : Nat) (hi : IsNo x.l i t.name) => by
    have := knownTr_any t.name (h.below hb) hi hl
    rw [hKf] at this
    exact this)
  unfold TellsC at HKn
  have HWi := hide (fun (wx : World) (hb : Below w.heap.size w wx) (i : Nat) (A1 : Option Addr) (n1 c1 : Nat) (h1 : SpOn wx A1 n1 (Kf i).set) => by
    have := withinT_any (Kf i).name t.name (Kf i).set t.set (Kf i).none t.none A1 A n1 c1 n c wx h1 (SpOn.on ht hb) (by rw [← hKf]; exact know_set _ _) hset
    rw [show (decide ((Kf i).name = t.name) && (decide (lessS (Kf i).set t.set = []) && (t.none || !(Kf i).none))) = Wf i by rw [← hWf, ← hKf]; rfl] at this
    exact this)
  unfold Tells at HWi
  have HAh := hide (fun (wx : World) (hb : Below w.heap.size w wx) => (h.below hb).ahead)
  have Hno := hide (isNo_all x.l t.name)
  have Hnone := hide (fun (e : Wf (lastNo x.l t.name) = false) => since_none (l := x.l) (t := t) (by rw [hWf]; exact e))
  have Hzero := hide (fun (e : Wf 0 = true) => since_zero (l := x.l) (t := t) (by rw [hWf]; exact e))
  have Hhere := hide (fun (i : Nat) (hi : i + 1 ≤ x.l.length) (e : Wf (i + 1) = true) (e2 : Wf (lastNo (x.l.take i) t.name) = false) => since_here (l := x.l) (t := t) hi (by rw [hWf]; exact e) (by rw [hWf]; exact e2))
  obtain ⟨g, rfl, hgl, hBg, _⟩ := h.ahead
  unfold TellsN
  clear h hs hnm hKf hWf hset ht
  obtain ⟨tn, ts, tz⟩ := t
  simp only [] at HF HKn HWi Hno Hnone Hzero Hhere ⊢
  obtain ⟨W, hW⟩ : ∃ W, W = w.alloc (.cells #[.string tn, .slice A n c, .bool tz] 38) := ⟨_, rfl⟩
  have hbW : Below w.heap.size w W := by rw [hW]; exact alloc_b _
  have bk : Blk W w.heap.size 38 #[.string tn, .slice A n c, .bool tz] := by rw [hW]; exact Blk.new _ _ _
  have hWs := hbW.size
  have q0 := (bk.cell 0).trans (show (#[.string tn, .slice A n c, .bool tz] : Array Value)[0]? = some (.string tn) from rfl)
  go_enter Tryz.func41, Tryz.ntmps41
  go_upto_region 1 with fail
  try rw [← hW]
  clear hW
  go_upto_region 2 with (first
    | (go_at_call 55
       refine (HF.out _ hbW).mono ?_
       rintro e w1 ⟨rfl, rfl⟩))
  have HB := hide (fun (wx : World) (hx : Below W.heap.size W wx) => (show wx.cell? ⟨w.heap.size, 0, none⟩ = some (.string tn) ∧ wx.cell? ⟨w.heap.size, 1, none⟩ = some (.slice A n c) ∧ wx.cell? ⟨w.heap.size, 2, none⟩ = some (.bool tz) from
    ⟨((bk.below hx bk.lt).cell 0).trans rfl, ((bk.below hx bk.lt).cell 1).trans rfl, ((bk.below hx bk.lt).cell 2).trans rfl⟩))
  generalize lastNo x.l tn = L0 at *
  obtain ⟨b0, hb0⟩ : ∃ b, Wf L0 = b := ⟨_, rfl⟩
  have HW0 := hide (fun (wx : World) (hb : Below w.heap.size w wx) (A1 : Option Addr) (n1 c1 : Nat) (h1 : SpOn wx A1 n1 (Kf L0).set) => HWi.out wx hb L0 A1 n1 c1 h1)
  rw [hb0] at HW0 Hnone
  have Hb0 := hide hb0
  clear hb0 q0
  have kd : Below W.heap.size W W.drew := (Below.refl _ _).drew
  have kr := Below.refl W.heap.size W
  cases b0 with
  | false =>
    have E := hide (Hnone.out rfl)
    clear Hnone Hzero Hhere HAh Hb0
    go_region_held3 (fun w' => w'.cell? ⟨w.heap.size, 0, none⟩ = some (.string tn) ∧ w'.cell? ⟨w.heap.size, 1, none⟩ = some (.slice A n c) ∧ w'.cell? ⟨w.heap.size, 2, none⟩ = some (.bool tz)) (first | exact HB.out _ hk3 | exact HB.out _ hka | exact HB.out _ kd | exact HB.out _ kr | go_keep)
      (first
        | (go_at_call 40
           refine (HW0.out _ (hbW.trans (hka.mono hWs)) _ _ _ h6.1).mono ?_
           rintro e w7 ⟨rfl, hb7⟩
           have hk3 : Below W.heap.size W w7 := hka.trans (hb7.mono hka.size))
        | (go_at_call 57
           refine (HKn.out _ (hbW.trans (kd.mono hWs)) L0 Hno.out).mono ?_
           rintro e w6 ⟨A6, n6, c6, rfl, hc6, h6, hb6⟩
           have hka : Below W.heap.size W w6 := kd.trans (hb6.mono kd.size)))
    all_goals
      go_wp2
      go_ret
      exact ⟨-1, rfl, E.out, hbW.trans (hk3.mono hWs)⟩
  | true =>
    clear Hnone
    go_region_held3 (fun w' => w'.cell? ⟨w.heap.size, 0, none⟩ = some (.string tn) ∧ w'.cell? ⟨w.heap.size, 1, none⟩ = some (.slice A n c) ∧ w'.cell? ⟨w.heap.size, 2, none⟩ = some (.bool tz)) (first | exact HB.out _ hk3 | exact HB.out _ hka | exact HB.out _ kd | exact HB.out _ kr | go_keep)
      (first
        | (go_at_call 40
           refine (HW0.out _ (hbW.trans (hka.mono hWs)) _ _ _ h6.1).mono ?_
           rintro e w7 ⟨rfl, hb7⟩
           have hk3 : Below W.heap.size W w7 := hka.trans (hb7.mono hka.size))
        | (go_at_call 57
           refine (HKn.out _ (hbW.trans (kd.mono hWs)) L0 Hno.out).mono ?_
           rintro e w6 ⟨A6, n6, c6, rfl, hc6, h6, hb6⟩
           have hka : Below W.heap.size W w6 := kd.trans (hb6.mono kd.size)))
    all_goals
      clear h6 hc6 HW0
      go_wp2
      go_loopw [5] (fun u wr => ∃ i : Nat, u = .int .i64 (i : Int) ∧ Hid (IsNo x.l i tn) ∧ Hid (Wf i = true) ∧ Below W.heap.size W wr) (fun u _ => (RowKit.intOf u).toNat)
      case atStart => exact ⟨L0, rfl, Hno, Hb0, hk3⟩
      case round =>
        obtain ⟨i, rfl, hno, hwi, hb⟩ := hrel
        have hbs := hb.size
        have hil := hno.out.1
        clear hb6 hb7 hk3 hka
        rcases i with _ | j
        · have E := hide (Hzero.out hwi.out)
          clear Hzero Hhere HAh hno hwi
          go_wp2
          go_ret
          exact ⟨((0 : Nat) : Int), rfl, E.out, hbW.trans (hb.mono hWs)⟩
        · obtain ⟨q, hq, hqn⟩ := hno.out.2 j rfl
          have hbw := hbW.trans (hb.mono hWs)
          obtain ⟨g', e1, hg1, _, hah⟩ := HAh.out wr hbw
          injection e1 with e1
          injection e1 with e1
          injection e1 with e1
          subst e1
          obtain ⟨ge, ce, c0, hle, hge, c5⟩ := hah j q hq
          rw [hqn] at c5
          have hn1 : ((j + 1 : Nat) : Int) - 1 = (j : Int) := by omega
          have i1 : (0 : Int) ≤ (j : Int) := by omega
          have i2 : (j : Int) < (x.l.length : Int) := by omega
          have i3 : (0 : Int) < ((j + 1 : Nat) : Int) := by omega
          have N1 := hide (isNo_last (l := x.l) tn (k := j) (by omega))
          have N3 := last_le (l := x.l) tn j (by omega)
          have Hh := hide (fun e2 => Hhere.out j hil hwi.out e2)
          obtain ⟨bq0, bq1, bq2⟩ := HB.out wr hb
          clear hah hq hqn hno hwi
          generalize lastNo (x.l.take j) tn = L1 at *
          obtain ⟨b1, hb1⟩ : ∃ b, Wf L1 = b := ⟨_, rfl⟩
          have HW1 := hide (fun (wx : World) (hb : Below w.heap.size w wx) (A1 : Option Addr) (n1 c1 : Nat) (h1 : SpOn wx A1 n1 (Kf L1).set) => HWi.out wx hb L1 A1 n1 c1 h1)
          rw [hb1] at HW1 Hh
          have Hb1 := hide hb1
          clear hb1
          have kdr : Below wr.heap.size wr wr.drew := (Below.refl _ _).drew
          have HB1 := hide (fun (wx : World) (hx : Below wr.heap.size wr wx) => HB.out wx (hb.trans (hx.mono hbs)))
          go_upto_region 6 with fail
          cases b1 with
          | false =>
            have E := hide (Hh.out rfl)
            clear Hh Hzero Hhere HAh
            go_region_held3 (fun w' => w'.cell? ⟨w.heap.size, 0, none⟩ = some (.string tn) ∧ w'.cell? ⟨w.heap.size, 1, none⟩ = some (.slice A n c) ∧ w'.cell? ⟨w.heap.size, 2, none⟩ = some (.bool tz)) (first | exact HB1.out _ hk3 | exact HB1.out _ hka | exact HB1.out _ kdr | exact HB1.out _ (Below.refl _ _) | go_keep)
              (first
                | (go_at_call 40
                   refine (HW1.out _ (hbw.trans (hka.mono hbw.size)) _ _ _ h6.1).mono ?_
                   rintro e w7 ⟨rfl, hb7⟩
                   have hk3 : Below wr.heap.size wr w7 := hka.trans (hb7.mono hka.size))
                | (go_at_call 57
                   refine (HKn.out _ (hbw.trans (kdr.mono hbw.size)) L1 N1.out).mono ?_
                   rintro e w6 ⟨A6, n6, c6, rfl, hc6, h6, hb6⟩
                   have hka : Below wr.heap.size wr w6 := kdr.trans (hb6.mono kdr.size)))
            all_goals
              go_wp2
              go_ret
              exact ⟨((j + 1 : Nat) : Int), rfl, E.out, hbw.trans (hk3.mono hbw.size)⟩
          | true =>
            clear Hh
            go_region_held3 (fun w' => w'.cell? ⟨w.heap.size, 0, none⟩ = some (.string tn) ∧ w'.cell? ⟨w.heap.size, 1, none⟩ = some (.slice A n c) ∧ w'.cell? ⟨w.heap.size, 2, none⟩ = some (.bool tz)) (first | exact HB1.out _ hk3 | exact HB1.out _ hka | exact HB1.out _ kdr | exact HB1.out _ (Below.refl _ _) | go_keep)
              (first
                | (go_at_call 40
                   refine (HW1.out _ (hbw.trans (hka.mono hbw.size)) _ _ _ h6.1).mono ?_
                   rintro e w7 ⟨rfl, hb7⟩
                   have hk3 : Below wr.heap.size wr w7 := hka.trans (hb7.mono hka.size))
                | (go_at_call 57
                   refine (HKn.out _ (hbw.trans (kdr.mono hbw.size)) L1 N1.out).mono ?_
                   rintro e w6 ⟨A6, n6, c6, rfl, hc6, h6, hb6⟩
                   have hka : Below wr.heap.size wr w6 := kdr.trans (hb6.mono kdr.size)))
            all_goals
              go_wp2
              go_roundw
              case rel => exact ⟨L1, rfl, N1, Hb1, hb.trans (hk3.mono hbs)⟩
              case measure => simp [RowKit.intOf]; omega
set_option maxHeartbeats 8000000 in
set_option maxRecDepth 100000 in
theorem firstTr_any (c : List Tm) (A : Option Addr) (n k : Nat) (h : TrP w B v x) (hs : SmallE x.l) (hl : x.l.length ≤ 1000) (hc : TmOn w A n c) (hn : n ≤ 1000000) (hct : ∀ t ∈ c, t.name.size ≤ 1000000000 ∧ isSet (-1) t.set = true) :
    Calls Tryz.prog 15 #[v, .slice A n k] w fun e w' => e = .returned (.int .i64 (firstT x.l c)) ∧ Below w.heap.size w w' := by
  have hlen := TmIn.len hc
  obtain ⟨R, hR⟩ : ∃ R, firstT x.l c = R := ⟨_, rfl⟩
  have HS := hide (fun (wx : World) (hb : Below w.heap.size w wx) (t : Tm) (ht : t ∈ c) (A1 : Option Addr) (n1 c1 : Nat) (h1 : SpOn wx A1 n1 t.set) => sinceTr_any t A1 n1 c1 (h.below hb) hs hl h1 (hct t ht).1 (hct t ht).2)
  unfold TellsN at HS
  have HC := hide (fun (wx : World) (hb : Below w.heap.size w wx) => hc.on hb)
  have Hdone := hide (fun (m : Nat) (e : FirstOk x.l c n m) => (e.done (by omega) : firstT x.l c = (m : Int)))
  have Hnone := hide (fun (t : Tm) (ht : t ∈ c) (e : SinceOk x.l t (-1)) => first_never ht e)
  rw [hR] at Hdone Hnone ⊢
  obtain ⟨g, rfl, hgl, hBg, _⟩ := h.ahead
  clear h hs hct hc hlen hR
  go_enter Tryz.func15, Tryz.ntmps15
  go_wp2
  go_loopw [5, 13] (fun a p wr => ∃ (i m : Nat), i ≤ n ∧ p = .int .i64 (i : Int) ∧ a = .int .i64 (m : Int) ∧ Hid (FirstOk x.l c i m) ∧ Below w.heap.size w wr) (fun _ p _ => n - (RowKit.intOf p).toNat)
  case atStart => exact ⟨0, 0, by omega, rfl, rfl, hide (FirstOk.start _ _), Below.refl _ _⟩
  case round =>
    obtain ⟨i, m, hi, rfl, rfl, hf, hb⟩ := hrel
    have hbs := hb.size
    by_cases hlt : i < n
    · obtain ⟨ad, t, A', n', c', rfl, hbl, hx, hsp, p0, p1, p2⟩ := TmIn.at_ (HC.out wr hb) hlt
      have hmem := List.mem_of_getElem? hx
      have Hstep := hide (fun (m' : Nat) (e : SinceOk x.l t (m' : Int)) => hf.out.step hx e)
      have Hn := hide (fun e => Hnone.out t hmem e)
      have HSt := hide (fun (wx : World) (hb : Below w.heap.size w wx) => HS.out wx hb t hmem A' n' c')
      have i1 : (0 : Int) ≤ (i : Int) := by omega
      have i2 : (i : Int) < (n : Int) := by omega
      clear hx hmem hf
      obtain ⟨tn, ts, tz⟩ := t
      simp only [] at p0 p1 p2 hsp HSt Hn Hstep
      go_upto_region 7 with fail
      obtain ⟨V, hV⟩ : ∃ V, V = wr.alloc (.cells #[.string tn, .slice A' n' c', .bool tz] 38) := ⟨_, rfl⟩
      have hVb : Below wr.heap.size wr V := by rw [hV]; exact alloc_b _
      have bk : Blk V wr.heap.size 38 #[.string tn, .slice A' n' c', .bool tz] := by rw [hV]; exact Blk.new _ _ _
      have hbV := hb.trans (hVb.mono hbs)
      have hsV : SpOn V A' n' ts := (show SpOn wr A' n' ts from hsp).on hVb
      try rw [← hV]
      clear hV
      have b0 := (bk.cell 0).trans (show (#[.string tn, .slice A' n' c', .bool tz] : Array Value)[0]? = some (.string tn) from rfl)
      have b1 := (bk.cell 1).trans (show (#[.string tn, .slice A' n' c', .bool tz] : Array Value)[1]? = some (.slice A' n' c') from rfl)
      have b2 := (bk.cell 2).trans (show (#[.string tn, .slice A' n' c', .bool tz] : Array Value)[2]? = some (.bool tz) from rfl)
      clear p0 p1 p2 hsp
      go_wp2_with (first
        | (go_at_call 41
           refine (HSt.out _ hbV hsV).mono ?_
           rintro e w1 ⟨r, rfl, hsn, hb1⟩
           have hb2 := hbV.trans (hb1.mono hbV.size)
           have hsn2 := hide hsn
           rcases hsn with ⟨rfl, _⟩ | ⟨m2, rfl, hm2, _, _⟩))
      · go_ret
        exact ⟨by rw [Hn.out hsn2.out]; rfl, hb2⟩
      · have E := hide (Hstep.out m2 hsn2.out)
        have emax : max (m : Int) (m2 : Int) = ((max m m2 : Nat) : Int) := by omega
        have hm0 : ¬ (m2 : Int) < 0 := by omega
        go_wp2
        go_roundw
        case rel => exact ⟨i + 1, max m m2, by omega, by go_num, by first | rw [emax] | (congr 1; omega), E, hb2⟩
        case measure => simp [RowKit.intOf]; omega
    · have hi2 : i = n := by omega
      subst hi2
      have E := hide (Hdone.out m hf.out)
      clear hf
      go_wp2
      go_ret
      exact ⟨by rw [E.out]; rfl, hb⟩
set_option maxHeartbeats 2000000 in
set_option maxRecDepth 100000 in
theorem firstTr_nil (w : World) : Calls Tryz.prog 15 #[.pointer none, .slice none 0 0] w fun e w' => e = .returned (.int .i64 (-1)) ∧ Below w.heap.size w w' := by
  go_enter Tryz.func15, Tryz.ntmps15
  go_wp2
  go_ret
  exact ⟨rfl, Below.refl _ _⟩
end
end Go.Proofs.YtllogmokadcfmaaGreat.Trail
