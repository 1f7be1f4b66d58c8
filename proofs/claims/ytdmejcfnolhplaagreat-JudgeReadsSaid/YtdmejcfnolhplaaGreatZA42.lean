/-
  Some texts of this claim, one behind the other: ClashMapT, ClashFind. What each proves, and its condition, stands at its head.
-/
import Derived.Test.YtdmejcfnolhplaaGreatZA37
import Derived.Test.YtdmejcfnolhplaaGreatZA21
import Derived.Test.YtdmejcfnolhplaaGreatZA23
import Derived.Test.YtdmejcfnolhplaaGreatZA40
import Derived.Test.YtdmejcfnolhplaaGreatZA38
import Derived.Test.YtdmejcfnolhplaaGreatZA9
/-
  A map of terms that a call makes: what it holds of each name (the terms of that name, met), what looking up and putting in do, and which names its sorted keys are. No condition.
-/
namespace Go.Proofs.YtdmejcfnolhplaaGreat.Clash
open Go Go.RowKit Go.Lib Go.Maps Go.Sort Go.Proofs.YtdmejcfnolhplaaGreat.Span Go.Proofs.YtdmejcfnolhplaaGreat.Need Go.Proofs.YtdmejcfnolhplaaGreat.Mani Go.Proofs.YtdmejcfnolhplaaGreat.Term Go.Proofs.YtdmejcfnolhplaaGreat.MapV
set_option linter.unusedVariables false
theorem sorted_f {w : World} {b n : Nat} {D : DataW Value} {f : ByteArray → Option Value} {L : List ByteArray} (hown : w.ownsMap Tryz.prog 9 valElem b n D) (ht : ToldF D f) (hr : L.Pairwise fun x y => nlt x y = true) (look : ∀ nm, (f nm).isSome = true ↔ nm ∈ L) {ss : List (List UInt8)} (hp : ss.Perm (strKeys D)) :
    ss.mergeSort (fun x y => decide (x ≤ y)) = L.map bytesOf := by
  have hlt : (L.map bytesOf).Pairwise (fun x y => x < y) := List.pairwise_map.2 (hr.imp fun h => bytes_lt h)
  have hC : Collected D (fun _ => false) (L.map bytesOf) := ⟨hlt.imp fun {a b} h e => by rw [e] at h; exact List.lt_irrefl _ h, fun x => by
    have e : bytesOf (⟨x.toArray⟩ : ByteArray) = x := by simp [bytesOf]
    have h2 := ht.2.1 ⟨x.toArray⟩
    rw [e] at h2
    rw [h2, look, List.mem_map]
    constructor
    · rintro ⟨y, hy, hyx⟩
      refine ⟨?_, rfl⟩
      rw [show (⟨x.toArray⟩ : ByteArray) = y from bytesOf_inj (by rw [e, hyx])]
      exact hy
    · rintro ⟨hy, _⟩
      exact ⟨_, hy, e⟩⟩
  have hP := hC.perm hown keyed Tryz.underlying9 fun _ => rfl
  have h1 := mergeSort_of_perm (hp.trans hP.symm)
  refine h1.trans ?_
  refine List.mergeSort_of_pairwise (hlt.imp fun h => ?_)
  simp only [leB, decide_eq_true_eq]
  exact List.le_of_lt h
theorem farT_map {w : World} {n b : Nat} {f : ByteArray → Option Value} (T : TypeId) (g : OwnTold w b n f) : FarT w T (some b) := by
  intro k cur m h e
  obtain ⟨es, clock, hb⟩ := g.block
  injection e with e
  rw [e, hb] at h
  injection h with h
  cases h
def IsTm (w : World) (v : Value) (t : Tm) : Prop := ∃ A k e, v = .agg #[.string t.name, .slice A k e, .bool t.none] ∧ InS w 0 A k t.set
def MapC (w : World) (b n : Nat) (c : List Tm) : Prop :=
  ∃ f, OwnTold w b n f ∧ (∀ nm, (f nm).isSome = (findC c nm).isSome) ∧ ∀ nm t, findC c nm = some t → ∃ v, f nm = some v ∧ IsTm w v t
section
variable {w w' : World} {b n m : Nat} {c : List Tm}
theorem IsTm.below {v : Value} {t : Tm} (h : IsTm w v t) (hb : Below w.heap.size w w') : IsTm w' v t := by
  obtain ⟨A, k, e, h1, h2⟩ := h
  exact ⟨A, k, e, h1, h2.below hb⟩
theorem MapC.made (w : World) : MapC (w.alloc (.map #[] 0)) w.heap.size 0 [] := ⟨_, OwnTold.made w, fun _ => rfl, fun nm t h => by cases h⟩
theorem MapC.lt (h : MapC w b n c) : b < w.heap.size := by obtain ⟨f, h1, _⟩ := h; exact h1.lt
theorem MapC.below (h : MapC w b n c) (hb : Below w.heap.size w w') : MapC w' b n c := by
  obtain ⟨f, h1, h3, h4⟩ := h
  refine ⟨f, h1.below hb, h3, fun nm t ht => ?_⟩
  obtain ⟨v, h5, h6⟩ := h4 nm t ht
  exact ⟨v, h5, h6.below hb⟩
theorem zero_term (w : World) : (zeroValue 77).run Tryz.prog w = .ok (.agg #[.string ⟨#[]⟩, .slice none 0 0, .bool false]) w := by
  obtain ⟨i0, hi0, hz0, hz1, hz2⟩ := info_parts info_term
  simp [zeroValue, typeInfo, hi0, hz0]
  rfl
theorem MapC.look_ok (h : MapC w b n c) {nm : ByteArray} (hs : nm.size ≤ maxLen) :
    (findC c nm = none ∧ (Instr.lookup 162 (.map (some b)) (.string nm) true).run Tryz.prog w = .ok (.tuple #[.agg #[.string ⟨#[]⟩, .slice none 0 0, .bool false], .bool false]) w) ∨
    ∃ t A k e, findC c nm = some t ∧ InS w 0 A k t.set ∧ (Instr.lookup 162 (.map (some b)) (.string nm) true).run Tryz.prog w = .ok (.tuple #[.agg #[.string t.name, .slice A k e, .bool t.none], .bool true]) w := by
  obtain ⟨f, h1, h3, h4⟩ := h
  have hl := h1.look_ok Tryz.underlying162 (zero_term w) hs
  cases hc : findC c nm with
  | none =>
    have h5 := h3 nm
    rw [hc] at h5
    have h6 : f nm = none := by cases g : f nm with
      | none => rfl
      | some v => rw [g] at h5; cases h5
    rw [h6] at hl
    exact .inl ⟨rfl, hl⟩
  | some t =>
    obtain ⟨v, h5, A, k, e, rfl, h6⟩ := h4 nm t hc
    rw [h5] at hl
    exact .inr ⟨t, A, k, e, rfl, h6, hl⟩
theorem MapC.look (h : MapC w b n c) {nm : ByteArray} (hs : nm.size ≤ maxLen) {t : Tm} (hc : findC c nm = some t) :
    ∃ A k e, InS w 0 A k t.set ∧ (Instr.lookup 162 (.map (some b)) (.string nm) false).run Tryz.prog w = .ok (.agg #[.string t.name, .slice A k e, .bool t.none]) w := by
  obtain ⟨f, h1, h3, h4⟩ := h
  have hl := h1.look Tryz.underlying162 (zero_term w) hs
  obtain ⟨v, h5, A, k, e, rfl, h6⟩ := h4 nm t hc
  rw [h5] at hl
  exact ⟨A, k, e, h6, hl⟩
theorem MapC.put {f : ByteArray → Option Value} (h1 : OwnTold w b n f) (h3 : ∀ nm, (f nm).isSome = (findC c nm).isSome) (h4 : ∀ nm t, findC c nm = some t → ∃ v, f nm = some v ∧ IsTm w v t) (hr : RisesC c) {t x : Tm} {v : Value} (hv : IsTm w v x)
    (hx : x = match findC c t.name with | some y => meetT y t | none => t) (h6 : OwnTold w' b m (fun a => if t.name = a then some v else f a)) (hg : w.grownBy w' (some b)) : MapC w' b m (putC t false c) := by
  have keep : ∀ {v t}, IsTm w v t → IsTm w' v t := fun {v t} h => by
    obtain ⟨A, k, e, g1, g2⟩ := h
    exact ⟨A, k, e, g1, insFar g2 (farT_map _ h1) hg⟩
  refine ⟨_, h6, fun nm => ?_, fun nm y hy => ?_⟩
  · rw [find_put hr]
    by_cases g : t.name = nm
    · simp only [if_pos g, if_pos g.symm]; rfl
    · simp only [if_neg g, if_neg (fun e : nm = t.name => g e.symm), h3]
  · rw [find_put hr] at hy
    by_cases g : t.name = nm
    · rw [if_pos g.symm, ← g] at hy
      simp only [if_pos g]
      injection hy with hy
      have hxy : x = y := hx.trans hy
      subst hxy
      exact ⟨v, rfl, keep hv⟩
    · rw [if_neg (fun e : nm = t.name => g e.symm)] at hy
      simp only [if_neg g]
      obtain ⟨u, h5, h6⟩ := h4 nm y hy
      exact ⟨u, h5, keep h6⟩
theorem MapC.store (h : MapC w b n c) (hr : RisesC c) (hn : n < maxLen) {t z : Tm} {A : Option Addr} {k e : Nat} (hI : InS w 0 A k z.set) (hz : z = match findC c t.name with | some y => meetT y t | none => t) (hs : t.name.size ≤ maxLen) :
    ∃ w', (Instr.mapUpdate 162 (.map (some b)) (.string t.name) (.agg #[.string z.name, .slice A k e, .bool z.none])).run Tryz.prog w = .ok () w' ∧ MapC w' b (n + 1) (putC t false c) ∧ w.grownBy w' (some b) := by
  obtain ⟨f, h1, h3, h4⟩ := h
  obtain ⟨w', r0, r1, r3⟩ := h1.put Tryz.underlying162 hn hs (.agg #[.string z.name, .slice A k e, .bool z.none])
  exact ⟨w', r0, MapC.put h1 h3 h4 hr ⟨A, k, e, rfl, hI⟩ hz r1 r3.grown, r3.grown⟩
theorem MapC.sorted (h : MapC w b n c) (hr : RisesC c) : ∃ D, w.ownsMap Tryz.prog 9 valElem b n D ∧ Maps.size D ≤ n ∧ ∀ ss : List (List UInt8), ss.Perm (strKeys D) → ss.mergeSort (fun x y => decide (x ≤ y)) = (c.map fun t => t.name).map bytesOf := by
  obtain ⟨f, ⟨D, h1, h2⟩, h3, h4⟩ := h
  refine ⟨D, h1, h1.size_le, fun ss hp => sorted_f h1 h2 (names_rise hr) (fun nm => ?_) hp⟩
  rw [h3]
  unfold findC
  rw [List.find?_isSome, List.mem_map]
  simp
end
theorem meet_fullT {t : Tm} (h : okT t = true) : meetT (fullOf t.name) t = t := by
  rw [meet_same (a := fullOf t.name) (b := t) rfl]
  obtain ⟨nm, s, z⟩ := t
  show (⟨nm, meetS allS s, true && z⟩ : Tm) = ⟨nm, s, z⟩
  have hs := okT_set h
  have e : meetS allS s = s := (is_nf hs fun p p0 p1 => by show has s p = (has allS p && has s p); rw [a_has p0 p1, Bool.true_and]).symm
  rw [e, Bool.true_and]
end Go.Proofs.YtdmejcfnolhplaaGreat.Clash
/-
  Contracts of the program's Find (and of the full term of a name). Condition: clashes that may be, of names of at most 1,000,000,000 bytes.
-/
namespace Go.Proofs.YtdmejcfnolhplaaGreat.Clash
open Go Go.RowKit Go.Lib Go.Proofs.YtdmejcfnolhplaaGreat.Span Go.Proofs.YtdmejcfnolhplaaGreat.Need Go.Proofs.YtdmejcfnolhplaaGreat.Grow Go.Proofs.YtdmejcfnolhplaaGreat.Term
set_option linter.unusedVariables false
theorem all_new (w : World) :
    Calls Tryz.prog 145 #[] w fun e w' => ∃ A n c, e = .returned (.slice A n c) ∧ NewS w' w.heap.size A n c allS ∧ Below w.heap.size w w' := by
  have hrd := hide (spIn_of_reads (reads_one w 0 1000000000 _ rfl))
  go_enter Tryz.func145, Tryz.ntmps145
  go_wp2
  go_ret
  exact ⟨some ⟨w.heap.size, 0, none⟩, 1, 1, rfl, ⟨rfl, Nat.le_refl _, ⟨rfl, .inr ⟨w.heap.size, 1, _, rfl, Nat.le_refl _, heap_alloc_new w _, Nat.le_refl _, by decide, rfl, rfl⟩⟩, (hrd.out).more (by simp)⟩, (Below.refl _ _).alloc (Nat.le_refl _) _⟩
set_option maxHeartbeats 4000000 in
set_option maxRecDepth 100000 in
theorem fullC_any (nm : ByteArray) (w : World) (hnm : nm.size ≤ 1000000000) :
    Calls Tryz.prog 117 #[.string nm] w (MakesT w (fullOf nm)) := by
  unfold MakesT
  show Calls _ _ _ _ fun e w' => ∃ A n c, e = .returned (.agg #[.string nm, .slice A n c, .bool true]) ∧ NewS w' w.heap.size A n c allS ∧ Below w.heap.size w w'
  have HK := hide (fun (wx : World) => Label.clone_any nm wx hnm)
  have HA := hide (fun (wx : World) => all_new wx)
  obtain ⟨W, hW⟩ : ∃ W, W = w.alloc (.cells #[.string ⟨#[]⟩, .slice none 0 0, .bool false] 77) := ⟨_, rfl⟩
  have hbW : Below w.heap.size w W := by rw [hW]; exact alloc_b _
  have bk : Blk W w.heap.size 77 #[.string ⟨#[]⟩, .slice none 0 0, .bool false] := by rw [hW]; exact Blk.new _ _ _
  have hlW := bk.lt
  generalize allS = L at *
  clear hnm
  go_enter Tryz.func117, Tryz.ntmps117
  go_upto_region 1 with fail
  try rw [← hW]
  clear hW
  go_wp2_with (first
    | (go_at_call 37
       refine (HK.out _).mono ?_
       rintro e w1 ⟨rfl, hb1⟩
       have hs1 := hb1.size)
    | (go_at_call 145
       refine (HA.out _).mono ?_
       rintro e w2 ⟨A2, n2, c2, rfl, hN2, hb2⟩
       have hb12 := hb1.trans (hb2.mono hs1)
       have bk1 := bk.below hb12 bk.lt
       have hbw := hbW.trans (hb12.mono hbW.size)
       have k0 := bk1.cell 0
       have k1 := bk1.cell 1
       have k2 := bk1.cell 2
       have f0 := bk1.frozen 0
       have f1 := bk1.frozen 1
       have f2 := bk1.frozen 2))
  have hblk := stored_row (u := .string nm) (v := .slice A2 n2 c2) (x := .bool true) bk1 rfl
  refine bodyPost_ret (results_cell_row rfl _ _ w.heap.size 77 _ (0, 0) _ rfl hblk Tryz.underlying77 rfl rfl) rfl ?_
  exact ⟨A2, n2, c2, rfl, (three_new hN2 (by omega) _ _ _).less (by omega), three_b hbw (Nat.le_refl _) _ _ _⟩
set_option maxHeartbeats 8000000 in
set_option maxRecDepth 100000 in
theorem specFindC : SpecFindC := by
  intro l nm A n c w h hl hok hnm
  unfold FindsT
  have hlen := hide h.len
  have hn : n ≤ 1000 := by rw [← h.len]; exact hl.1
  have Hok := hide (fun t (ht : t ∈ l) => ((okC_iff.1 hok).2 t ht).1)
  have Hd := hide (fun i t => @findC_drop l nm t i)
  have Hend : Hid (findC (l.drop n) nm = none) := hide (by rw [List.drop_of_length_le (by have := hlen.out; omega)]; rfl)
  have HF := hide (fun (wx : World) => fullC_any nm wx hnm)
  unfold MakesT at HF
  obtain ⟨r, hr⟩ : ∃ r, r = findC l nm := ⟨_, rfl⟩
  have Hr : Hid (r = findC (l.drop 0) nm) := hide hr
  have Hf : Hid (foundC l nm = r.getD (fullOf nm)) := hide (by rw [hr]; rfl)
  rw [← hr]
  generalize foundC l nm = F at *
  clear hr
  obtain ⟨W, hW⟩ : ∃ W, W = w.alloc (.cells #[.string ⟨#[]⟩, .slice none 0 0, .bool false] 77) := ⟨_, rfl⟩
  have hbW : Below w.heap.size w W := by rw [hW]; exact alloc_b _
  have bk : Blk W w.heap.size 77 #[.string ⟨#[]⟩, .slice none 0 0, .bool false] := by rw [hW]; exact Blk.new _ _ _
  have hWl : w.heap.size < W.heap.size := bk.lt
  go_enter Tryz.func80, Tryz.ntmps80
  go_upto_region 1 with fail
  try rw [← hW]
  clear hW
  go_wp2
  go_loopw [10] (fun v wr => ∃ i : Nat, i ≤ n ∧ v = .int .i64 (i : Int) ∧ Hid (r = findC (l.drop i) nm) ∧ Below W.heap.size W wr) (fun v _ => n - (RowKit.intOf v).toNat)
  case atStart => exact ⟨0, by omega, rfl, Hr, Below.refl _ _⟩
  case round =>
    obtain ⟨i, hi, rfl, hf, hbr⟩ := hrel
    have hbrs := hbr.size
    have hb := hbW.trans (hbr.mono hbW.size)
    have hbs := hb.size
    by_cases hlt : i < n
    · obtain ⟨ad, t, A', n', c', rfl, hbl, hx, hs, c1, c2, c3⟩ := TmIn.at_ (TmIn.below h hb) hlt
      have hd := hf.out.trans (Hd.out i t hx)
      have he := eq_names t.name nm
      have hot := Hok.out t (List.mem_of_getElem? hx)
      clear hx hf Hend Hr h Hd Hok
      by_cases hxn : t.name = nm
      · rw [if_pos hxn] at hd
        have hst := okT_set hot
        have hme := meet_fullT hot
        obtain ⟨tn, ts, tz⟩ := t
        have hxn' : tn = nm := hxn
        simp only [] at c1 c2 c3 hs hst
        clear hxn he
        subst hxn'
        have hF : Hid (F = ⟨tn, ts, tz⟩) := hide (by rw [Hf.out, hd]; rfl)
        have hS : Hid (r = some ⟨tn, ts, tz⟩) := hide hd
        have HM := hide (fun (wx : World) (Aq : Option Addr) (nq cq : Nat) (hq : SpOn wx Aq nq allS) (h2 : SpOn wx A' n' ts) => meetT_any tn tn allS ts true tz Aq A' nq cq n' c' wx hq h2 hnm allS_set hst)
        rw [show meetT ⟨tn, allS, true⟩ ⟨tn, ts, tz⟩ = ⟨tn, ts, tz⟩ from hme] at HM
        unfold MakesT at HM
        have HF2 := hide (show ∀ wx : World, Calls Tryz.prog 117 #[.string tn] wx fun e w' => ∃ A n c, e = .returned (.agg #[.string tn, .slice A n c, .bool true]) ∧ NewS w' wx.heap.size A n c allS ∧ Below wx.heap.size wx w' from HF.out)
        obtain ⟨V, hV⟩ : ∃ V, V = wr.alloc (.cells #[.string tn, .slice A' n' c', .bool tz] 77) := ⟨_, rfl⟩
        have hbV : Below wr.heap.size wr V := by rw [hV]; exact alloc_b _
        have hbVW : Below W.heap.size W V := hbr.trans (hbV.mono hbrs)
        have bt : Blk V wr.heap.size 77 #[.string tn, .slice A' n' c', .bool tz] := by rw [hV]; exact Blk.new _ _ _
        have bkV := bk.below hbVW bk.lt
        have hsV : SpOn V A' n' ts := (((hs.more hbs).below hbV).more hbV.size)
        have hVl := hbVW.size
        clear hd Hf hs hme hot hst HF
        generalize allS = LA at *
        go_upto_region 5 with fail
        try rw [← hV]
        clear hV
        have q0 := cell_reg_ ((bt.cell 0).trans (show (#[.string tn, .slice A' n' c', .bool tz] : Array Value)[0]? = some (.string tn) from rfl)) bt.lt
        have q1 := cell_reg_ ((bt.cell 1).trans (show (#[.string tn, .slice A' n' c', .bool tz] : Array Value)[1]? = some (.slice A' n' c') from rfl)) bt.lt
        have q2 := cell_reg_ ((bt.cell 2).trans (show (#[.string tn, .slice A' n' c', .bool tz] : Array Value)[2]? = some (.bool tz) from rfl)) bt.lt
        refine wp_region_grow_w [(19, tmR V.heap.size ⟨tn, LA, true⟩), (21, tmR V.heap.size ⟨tn, ts, tz⟩)] [19, 21] 4 (storesT w.heap.size V.heap.size ⟨tn, ts, tz⟩) _
          (by kernel_rfl) (by kernel_rfl) rfl (by kernel_rfl) (by kernel_rfl) (by kernel_rfl) rfl rfl (by kernel_rfl) (by kernel_rfl) ⟨tmR_stable _ _, tmR_stable _ _, trivial⟩ ?_
        repeat (first
          | (refine lexK_skip (by decide) rfl ?_; simp only [Act.put, List.setIfInBounds_toArray, List.set_cons_zero, List.set_cons_succ])
          | (refine lexK_quiet (by decide) rfl rfl rfl (fun K hK => ?_); unfold Reg; go_big_quiet_op; refine hK _ ?_; clear hK K))
        refine lexK_rel (by decide) rfl rfl (fun w' hb9 hK => ?_) (fun v w' hb9 hv => ?_)
        · unfold grows
          go_simp
          go_at_call 117
          refine (HF2.out w').mono ?_
          rintro e w8 ⟨A8, n8, c8, rfl, h8, hb8⟩
          exact ⟨_, rfl, hb8, A8, n8, c8, rfl, h8.less hb9.size⟩
        obtain ⟨A3, n3, c3', rfl, hN3⟩ := hv
        simp only [Act.put, List.setIfInBounds_toArray, List.set_cons_zero, List.set_cons_succ]
        repeat (first
          | (refine lexK_skip (by decide) rfl ?_; simp only [Act.put, List.setIfInBounds_toArray, List.set_cons_zero, List.set_cons_succ])
          | (refine lexK_quiet (by decide) rfl rfl rfl (fun K hK => ?_); unfold Reg; go_big_quiet_op; refine hK _ ?_; clear hK K))
        refine lexK_rel (by decide) rfl rfl (fun w' hb9 hK => ?_) (fun v w' hb9 hv => ?_)
        · obtain ⟨A4, n4, c4, e4, hN4⟩ := hK.at_ 19 rfl rfl (agg_d _)
          have e5 : Value.agg #[.string tn, .slice A3 n3 c3', .bool true] = .agg #[.string tn, .slice A4 n4 c4, .bool true] := e4
          obtain ⟨e6, e7, e8⟩ := agg_inj e5
          rw [← e6, ← e7] at hN4
          clear e4 e5 e6 e7 e8 hK
          unfold grows
          go_simp
          go_at_call 116
          refine (HM.out w' _ _ _ (on_new hN4) (hsV.on hb9)).mono ?_
          rintro e w8 ⟨A8, n8, c8, rfl, h8, hb8⟩
          exact ⟨_, rfl, hb8, A8, n8, c8, rfl, h8.less hb9.size⟩
        obtain ⟨A6, n6, c6, rfl, hN6⟩ := hv
        simp only [Act.put, List.setIfInBounds_toArray, List.set_cons_zero, List.set_cons_succ]
        refine lexK_wr rfl rfl (fun w' hb9 hK => ?_) (fun v w' w'' hb9 hv => ?_)
        · obtain ⟨A4, n4, c4, e4, hN4⟩ := hK.at_ 21 rfl (agg_d _)
          have bk9 := bkV.below hb9 bkV.lt
          have k0 := bk9.cell 0
          have k1 := bk9.cell 1
          have k2 := bk9.cell 2
          have f0 := bk9.frozen 0
          have f1 := bk9.frozen 1
          have f2 := bk9.frozen 2
          have e5 : Value.agg #[.string tn, .slice A6 n6 c6, .bool tz] = .agg #[.string tn, .slice A4 n4 c4, .bool tz] := e4
          obtain ⟨e7, e8, e9⟩ := agg_inj e5
          rw [← e7, ← e8, ← e9] at hN4
          clear e4 e5 e7 e8 e9 hK
          unfold grows
          go_simp
          exact ⟨_, _, _, hN4, rfl⟩
        simp only [Act.put]
        refine lexK_late (by decide) rfl rfl (fun K hK => ?_)
        go_big_quiet_op
        refine hK _ ?_
        clear hK K
        refine lexK_nil (fun w9 w1 v hC9 hall hS9 _ => ?_)
        have hb9 := reg_iff.1 hC9
        obtain ⟨A5, n5, c5, hN5, rfl⟩ := hS9
        clear hall q0 q1 q2 HM HF2
        have hblk := stored_row (u := .string tn) (v := .slice A5 n5 c5) (x := .bool tz) (bkV.below hb9 bkV.lt) rfl
        have hbz : Below w.heap.size w w1 := hbW.trans ((hbVW.trans (hb9.mono hVl)).mono hbW.size)
        go_wp2
        refine bodyPost_ret (results_row_tmp rfl _ _ w.heap.size 77 _ (0, 0) _ (.bool true) rfl rfl hblk Tryz.underlying77 rfl term_size) rfl ?_
        refine ⟨A5, n5, ⟨c5, by rw [hF.out, hS.out]; rfl⟩, ?_, three_b hbz (Nat.le_refl _) _ _ _⟩
        rw [hF.out]
        exact on_new (three_new hN5 (by omega) _ _ _)
      · rw [if_neg hxn] at hd
        rw [decide_eq_false hxn] at he
        have Hd2 := hide hd
        have hbV : Below W.heap.size W (wr.alloc (.cells #[.string t.name, .slice A' n' c', .bool t.none] 77)) := hbr.alloc hbrs _
        clear hxn hd hs HF hot
        go_wp2
        go_roundw
        case rel => exact ⟨i + 1, by omega, by go_num, Hd2, hbV⟩
        case measure => simp [RowKit.intOf]; omega
    · have hi2 : i = n := by omega
      have hS : Hid (r = none) := hide (by rw [hf.out, hi2]; exact Hend.out)
      have hF : Hid (F = ⟨nm, allS, true⟩) := hide (by rw [Hf.out, hS.out]; rfl)
      have HF2 := hide (show ∀ wx : World, Calls Tryz.prog 117 #[.string nm] wx fun e w' => ∃ A n c, e = .returned (.agg #[.string nm, .slice A n c, .bool true]) ∧ NewS w' wx.heap.size A n c allS ∧ Below wx.heap.size wx w' from HF.out)
      clear hf Hf Hend Hr Hd Hok HF h
      generalize allS = LA at *
      go_wp2_with (first
        | (go_at_call 117
           refine (HF2.out _).mono ?_
           rintro e w2 ⟨A2, n2, c2, rfl, hN2, hb2⟩
           have hb12 := hbr.trans (hb2.mono hbrs)
           have bk1 := bk.below hb12 bk.lt
           have hbw := hbW.trans (hb12.mono hbW.size)
           have k0 := bk1.cell 0
           have k1 := bk1.cell 1
           have k2 := bk1.cell 2
           have f0 := bk1.frozen 0
           have f1 := bk1.frozen 1
           have f2 := bk1.frozen 2))
      have hblk := stored_row (u := .string nm) (v := .slice A2 n2 c2) (x := .bool true) bk1 rfl
      refine bodyPost_ret (results_row_tmp rfl _ _ w.heap.size 77 _ (0, 0) _ (.bool false) rfl rfl hblk Tryz.underlying77 rfl term_size) rfl ?_
      refine ⟨A2, n2, c2, by rw [hF.out, hS.out]; rfl, ?_, three_b hbw (Nat.le_refl _) _ _ _⟩
      rw [hF.out]
      exact on_new (three_new hN2 (by omega) _ _ _)
end Go.Proofs.YtdmejcfnolhplaaGreat.Clash
