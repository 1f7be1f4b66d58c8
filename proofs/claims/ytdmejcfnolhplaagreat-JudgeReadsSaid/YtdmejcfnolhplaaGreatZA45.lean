/-
  Some texts of this claim, one behind the other: ClashJoin, JudgeJoin. What each proves, and its condition, stands at its head.
-/
import Derived.Test.YtdmejcfnolhplaaGreatZA44
import Derived.Test.YtdmejcfnolhplaaGreatZA41
/-
  The contract of the program's Join. Condition: clashes that may be, of at most 900 terms and 5,000 spans together.
-/
namespace Go.Proofs.YtdmejcfnolhplaaGreat.Clash
open Go Go.RowKit Go.Lib Go.Proofs.YtdmejcfnolhplaaGreat.Span Go.Proofs.YtdmejcfnolhplaaGreat.Need Go.Proofs.YtdmejcfnolhplaaGreat.Grow Go.Proofs.YtdmejcfnolhplaaGreat.Term
set_option linter.unusedVariables false
theorem Tms.at_ {w : World} {B n c k : Nat} {A : Option Addr} {rs : List Rt} {l : List Tm} (h : Tms w B (.slice A n c) n rs l) (hk : k < n) :
    ∃ ad q A' n' c', A = some ad ∧ ad.block < w.heap.size ∧ l[k]? = some q ∧ InS w B A' n' q.set ∧ w.cell? (ad.add (k * 3)) = some (.string q.name) ∧ w.cell? ⟨(ad.add (k * 3)).block, (ad.add (k * 3)).off + 1, none⟩ = some (.slice A' n' c') ∧ w.cell? ⟨(ad.add (k * 3)).block, (ad.add (k * 3)).off + 2, none⟩ = some (.bool q.none) := by
  have hl := h.len
  obtain ⟨Ax, cx, e, _, _, hr⟩ := own_form h.1
  injection e with e1 e2 e3
  subst e1
  obtain ⟨ad, hA, hb, hc⟩ := hr.2 (by omega)
  have hk2 : k < rs.length := by rw [h.2.1]; omega
  obtain ⟨f1, f3, A', n', c', f2, hs⟩ := h.2.2 k rs[k] (l[k]'(by omega)) (by simp) (by simp)
  obtain ⟨g1, g2, g3⟩ := tms_get rs k rs[k] (by simp)
  refine ⟨ad, l[k]'(by omega), A', n', c', hA, hb, by simp, hs, ?_, ?_, ?_⟩
  · rw [← f1]; exact hc _ _ g1
  · rw [← add_field, ← f2]; exact hc _ _ g2
  · rw [← add_two, ← f3]; exact hc _ _ g3
theorem drop_append (a b : List Tm) (n : ByteArray) : dropC (a ++ b) n = dropC a n ++ dropC b n := List.filter_append _ _
end Go.Proofs.YtdmejcfnolhplaaGreat.Clash
/-
  The contract of the program's Join of clashes once more, with the rows' types told. Condition: clashes that may be, of at most 900 terms and 5,000 spans together.
-/
namespace Go.Proofs.YtdmejcfnolhplaaGreat.Fact
open Go Go.RowKit Go.Lib Go.Proofs.YtdmejcfnolhplaaGreat.Span Go.Proofs.YtdmejcfnolhplaaGreat.Need Go.Proofs.YtdmejcfnolhplaaGreat.Grow Go.Proofs.YtdmejcfnolhplaaGreat.Term Go.Proofs.YtdmejcfnolhplaaGreat.Clash
set_option linter.unusedVariables false
set_option maxHeartbeats 8000000 in
set_option maxRecDepth 100000 in
theorem joinR_any (a b : List Tm) (nm : ByteArray) (A A' : Option Addr) (n c n' c' : Nat) (w : World) (h : TmOn w A n a) (h' : TmOn w A' n' b) (hfa : FineC a) (hfb : FineC b) (hoa : okC a = true) (hob : okC b = true) (hsum : sumC a + sumC b ≤ 5000) (hn : n + n' ≤ 900) (hnm : nm.size ≤ 1000000000) :
    Calls Tryz.prog 56 #[.slice A n c, .slice A' n' c', .string nm] w (MakesR w (joinC a b nm)) := by
  have ha : ∀ t ∈ a, okT t = true := fun t ht => ((okC_iff.1 hoa).2 t ht).1
  have hb : ∀ t ∈ b, okT t = true := fun t ht => ((okC_iff.1 hob).2 t ht).1
  have HA := hide (fun (wx : World) (hx : Below w.heap.size w wx) => specFindC a nm A n c wx (h.on hx) hfa hoa hnm)
  have HB := hide (fun (wx : World) (hx : Below w.heap.size w wx) => specFindC b nm A' n' c' wx (h'.on hx) hfb hob hnm)
  unfold FindsT at HA HB
  unfold MakesR
  clear hfa hfb hoa hob hnm
  cases fa : findC a nm with
  | none =>
    have e : joinC a b nm = none := by unfold joinC; rw [fa]
    rw [e]
    rw [fa] at HA
    generalize foundC a nm = X at *
    generalize foundC b nm = Y at *
    generalize (findC b nm).isSome = ok at *
    clear e fa h h' ha hb hsum
    go_enter Tryz.func56, Tryz.ntmps56
    go_wp2_with (first
      | (go_at_call 80
         refine (HB.out _ hb1).mono ?_
         rintro e w2 ⟨A2, n2, c2, rfl, h2, hb2x⟩
         have hb2 := hb1.trans (hb2x.mono hb1.size))
      | (go_at_call 80
         refine (HA.out _ (Below.refl _ _)).mono ?_
         rintro e w1 ⟨A1, n1, c1, rfl, h1, hb1x⟩
         have hb1 := hb1x.alloc hb1x.size (.cells #[.string X.name, .slice A1 n1 c1, .bool X.none] 77)))
    go_ret2
    exact ⟨none, 0, 0, rfl, TmR.nil _ _ _, hb2.alloc hb2.size _⟩
  | some x =>
  cases fb : findC b nm with
  | none =>
    have e : joinC a b nm = none := by unfold joinC; rw [fa, fb]
    rw [e]
    rw [fa] at HA
    rw [fb] at HB
    generalize foundC a nm = X at *
    generalize foundC b nm = Y at *
    clear e fa fb h h' ha hb hsum
    go_enter Tryz.func56, Tryz.ntmps56
    go_wp2_with (first
      | (go_at_call 80
         refine (HB.out _ hb1).mono ?_
         rintro e w2 ⟨A2, n2, c2, rfl, h2, hb2x⟩
         have hb2 := hb1.trans (hb2x.mono hb1.size))
      | (go_at_call 80
         refine (HA.out _ (Below.refl _ _)).mono ?_
         rintro e w1 ⟨A1, n1, c1, rfl, h1, hb1x⟩
         have hb1 := hb1x.alloc hb1x.size (.cells #[.string X.name, .slice A1 n1 c1, .bool X.none] 77)))
    go_ret2
    exact ⟨none, 0, 0, rfl, TmR.nil _ _ _, hb2.alloc hb2.size _⟩
  | some y =>
    obtain ⟨i0, hi0, hz0, hz1, hz2⟩ := info_parts info_term
    have e : joinC a b nm = makeC (joinT x y :: (dropC a nm ++ dropC b nm)) := by unfold joinC; rw [fa, fb]; rfl
    rw [e]
    have hxa := find_name fa
    have hyb := find_name fb
    have ox := ha x hxa.1
    have oy := hb y hyb.1
    have lx := sumC_mem hxa.1
    have ly := sumC_mem hyb.1
    have hoj := ok_join ox (hxa.2.trans hyb.2.symm)
    have hjl := joinT_len (okT_set ox) (okT_set oy)
    have la := h.len
    have lb := h'.len
    have sa := sum_drop a nm
    have sb := sum_drop b nm
    have hok : ∀ t ∈ joinT x y :: (dropC a nm ++ dropC b nm), okT t = true := by
      intro t ht
      rcases List.mem_cons.1 ht with rfl | ht
      · exact hoj
      · rcases List.mem_append.1 ht with ht | ht
        · exact ha t (List.mem_filter.1 ht).1
        · exact hb t (List.mem_filter.1 ht).1
    have h2a : (dropC a nm).length ≤ a.length := List.length_filter_le _ _
    have h3b : (dropC b nm).length ≤ b.length := List.length_filter_le _ _
    have HMk := hide (fun (wx : World) (Aq : Option Addr) (nq cq : Nat) (hq : TmOn wx Aq nq ([joinT x y] ++ dropC (a ++ b) nm)) => makeR_any (joinT x y :: (dropC a nm ++ dropC b nm)) Aq nq cq wx (by rw [drop_append] at hq; exact hq) ⟨by
      simp only [List.length_append, List.length_cons]
      omega, by rw [sumC_cons, sumC_append]; omega, fun t ht => by have := Label.fit_small t.name (okT_fit (hok t ht)); omega⟩ hok)
    unfold MakesR at HMk
    have hxn48 := Label.fit_small x.name (okT_fit ox)
    have HJ := hide (fun (wx : World) (A1 A2 : Option Addr) (n1 c1 n2 c2 : Nat) (h1 : SpOn wx A1 n1 x.set) (h2 : SpOn wx A2 n2 y.set) => joinT_any x.name y.name x.set y.set x.none y.none A1 A2 n1 c1 n2 c2 wx h1 h2 (by omega) (okT_set ox) (okT_set oy))
    unfold MakesT at HJ
    rw [show joinT ⟨x.name, x.set, x.none⟩ ⟨y.name, y.set, y.none⟩ = joinT x y from rfl] at HJ
    rw [fa, find_isSome fa] at HA
    rw [fb, find_isSome fb] at HB
    have lab : (a ++ b).length = n + n' := by rw [List.length_append]; omega
    have HLab := hide lab
    have HCon := hide (fun (wx : World) (g : Nat) (hg : Blk wx g 41 #[.slice A n c, .slice A' n' c']) (hx : Below w.heap.size w wx) => concatC_any a b A A' n c n' c' g w.heap.size wx hg (TmIn.below h hx) (TmIn.below h' hx) hx.size (by omega))
    generalize makeC (joinT x y :: (dropC a nm ++ dropC b nm)) = R at *
    generalize joinT x y = J at *
    clear e hok sa sb la lb hjl hoj lx ly ox oy hxa hyb fa fb ha hb hsum h h' lab h2a h3b hxn48
    go_enter Tryz.func56, Tryz.ntmps56
    go_upto_region 5 with (first
      | (go_at_call 80
         refine (HB.out _ hb1).mono ?_
         rintro e w2 ⟨A2, n2, c2, rfl, h2, hb2x⟩
         have hb2 := hb1.trans (hb2x.mono hb1.size)
         have h1w := h1'.on hb2x
         have bX2 := bX.below hb2x bX.lt)
      | (go_at_call 80
         refine (HA.out _ (Below.refl _ _)).mono ?_
         rintro e w1 ⟨A1, n1, c1, rfl, h1, hb1x⟩
         have hb1 := hb1x.alloc hb1x.size (.cells #[.string x.name, .slice A1 n1 c1, .bool x.none] 77)
         have h1' := h1.on (alloc_b (.cells #[.string x.name, .slice A1 n1 c1, .bool x.none] 77))
         have bX := Blk.new w1 77 #[.string x.name, .slice A1 n1 c1, .bool x.none]))
    obtain ⟨gx, hgx⟩ : ∃ g, g = w1.heap.size := ⟨_, rfl⟩
    obtain ⟨gy, hgy⟩ : ∃ g, g = w2.heap.size := ⟨_, rfl⟩
    obtain ⟨W2, hW2⟩ : ∃ W2, W2 = w2.alloc (.cells #[.string y.name, .slice A2 n2 c2, .bool y.none] 77) := ⟨_, rfl⟩
    have hbW2 : Below w.heap.size w W2 := by rw [hW2]; exact hb2.alloc hb2.size _
    have bX3 : Blk W2 gx 77 #[.string x.name, .slice A1 n1 c1, .bool x.none] := by rw [hW2, hgx]; exact bX2.alloc _
    have bY3 : Blk W2 gy 77 #[.string y.name, .slice A2 n2 c2, .bool y.none] := by rw [hW2, hgy]; exact Blk.new _ _ _
    have hX3 : SpOn W2 A1 n1 x.set := by rw [hW2]; exact h1w.on (alloc_b _)
    have hY3 : SpOn W2 A2 n2 y.set := by rw [hW2]; exact h2.on (alloc_b _)
    try rw [← hgx]
    try rw [← hgy]
    try rw [← hW2]
    have HJ2 := hide (HJ.out _ _ _ _ c1 _ c2 hX3 hY3)
    clear hW2 hgx hgy bX bX2 h1 h1' h1w h2 hb1 hb2 hb1x hb2x HA HB HJ hX3 hY3
    have kx0 := bX3.cell 0
    have kx1 := bX3.cell 1
    have kx2 := bX3.cell 2
    have ky0 := bY3.cell 0
    have ky1 := bY3.cell 1
    have ky2 := bY3.cell 2
    go_upto_region 6 with (first
      | (go_at_call 81
         refine HJ2.out.mono ?_
         rintro e w3 ⟨A3, n3, c3, rfl, hN3, hb3⟩))
    obtain ⟨W3, hW3⟩ : ∃ W, W = w3.alloc (.cells #[.string J.name, .slice A3 n3 c3, .bool J.none] 77) := ⟨_, rfl⟩
    obtain ⟨g3, hg3⟩ : ∃ g, g = w3.heap.size := ⟨_, rfl⟩
    have Hg3 : Hid (g3 < W3.heap.size) := hide (by rw [hW3, hg3]; simp)
    have hA3 : Below w3.heap.size w3 W3 := by rw [hW3]; exact alloc_b _
    have hN0 : Tms W3 W2.heap.size (.slice (some ⟨g3, 0, none⟩) 1 1) 1 [(J.name, .slice A3 n3 c3, J.none)] ([J] ++ dropC ((a ++ b).take 0) nm) := by
      rw [show dropC ((a ++ b).take 0) nm = [] from rfl, List.append_nil]
      refine ⟨?_, AllT.one (InS.below (InS.of_new hN3) hA3)⟩
      rw [hW3, hg3]
      exact own_one w3 _ _ _ _ _ _ hb3.size
    have hb0 : Below W2.heap.size W2 W3 := hb3.trans (hA3.mono hb3.size)
    have hbW3 : Below w.heap.size w W3 := hbW2.trans (hb0.mono hbW2.size)
    obtain ⟨W4, hW4⟩ : ∃ W, W = W3.alloc (.cells #[.slice A n c, .slice A' n' c'] 41) := ⟨_, rfl⟩
    have hb34 : Below W3.heap.size W3 W4 := by rw [hW4]; exact alloc_b _
    have HC4 : Hid (Calls Tryz.prog 82 #[.slice (some ⟨W3.heap.size, 0, none⟩) 2 2] W4 fun e w' => ∃ B m k rs, e = .returned (.slice B m k) ∧ w'.ownsRow W4.heap.size 77 3 (.slice B m k) m (tms rs) ∧ AllT w' w.heap.size rs (a ++ b) ∧ Below W4.heap.size W4 w') := hide (by
      refine HCon.out W4 W3.heap.size ?_ (hbW3.trans (hb34.mono hbW3.size))
      rw [hW4]; exact Blk.new _ _ _)
    try rw [← hg3]
    try rw [← hW3]
    clear HJ2 kx0 kx1 kx2 ky0 ky1 ky2 bX3 bY3 hN3 hA3 HCon hW3 hg3 hb3
    go_wp2_with (first
      | (go_at_call 82
         try rw [← hW4]
         refine HC4.out.mono ?_
         rintro e V ⟨B, k, kc, rb, rfl, hown, hall, hb5⟩
         have hb45 : Below W3.heap.size W3 V := hb34.trans (hb5.mono hb34.size)
         have hNV := hN0.below hb45
         have hbV : Below W2.heap.size W2 V := hb0.trans (hb45.mono hb0.size)
         have hw2s := hbW2.size
         have hw3s := hb0.size
         have hw4s := hb34.size
         have hTV : Tms V W2.heap.size (.slice B k kc) k rb (a ++ b) := ⟨own_less hown (by omega), hall.1, fun i r q hr hq => by
           obtain ⟨e1, e3, A9, n9, c9, e2, hs⟩ := hall.2 i r q hr hq
           exact ⟨e1, e3, A9, n9, c9, e2, hs.1, fun ad hA hn => (hs.2 ad hA hn).imp (fun h => by omega) id⟩⟩
         have HB : Hid (∀ q, (Value.slice B k kc).ownBlock = some q → g3 < q ∧ q < V.heap.size) := hide (fun q hq => by
           have := hown.lt q hq
           have h3 := Hg3.out
           exact ⟨by omega, this.2⟩)
         have hkl := hTV.len
         have hk : k ≤ 900 := by have := HLab.out; omega
         have Hk := hide hkl
         have HG : Hid (∀ q, (Value.slice (some ⟨g3, 0, none⟩) 1 1).ownBlock = some q → q = g3 ∨ V.heap.size ≤ q) := hide (fun q hq => by
           simp only [Value.ownBlock, Option.some.injEq] at hq
           exact .inl hq.symm)))
    clear hN0 HC4 hb34 hb0 hbW3 hb5 hb45 hW4 hkl HLab hown hall Hg3 hw2s hw3s hw4s
    have hVs := hbV.size
    go_loopw [12, 42] (fun u v wr => ∃ (i m : Nat) (rs : List Rt), i ≤ k ∧ m ≤ i + 1 ∧ v = .int .i64 (i : Int) ∧ Tms wr W2.heap.size u m rs ([J] ++ dropC ((a ++ b).take i) nm) ∧ Tms wr W2.heap.size (.slice B k kc) k rb (a ++ b) ∧ Hid (∀ q, u.ownBlock = some q → q = g3 ∨ V.heap.size ≤ q) ∧ V.heap.size ≤ wr.heap.size ∧ Below W2.heap.size W2 wr) (fun _ v _ => k - (RowKit.intOf v).toNat)
    case atStart => exact ⟨0, 1, _, by omega, by omega, rfl, hNV, hTV, HG, Nat.le_refl _, hbV⟩
    case round =>
      obtain ⟨i, m, rs, hi, hm, rfl, hN, hT, hG, hbvs, hbz⟩ := hrel
      obtain ⟨Ax, cx, rfl, hcx, hx0⟩ := hN.told
      have hbzs := hbz.size
      by_cases hlt : i < k
      · obtain ⟨ad, t, A5, n5, c5, e5, hbl, hx, hs, c1, c2, c3⟩ := Tms.at_ hT hlt
        subst e5
        have hd := dropC_take (n := nm) hx
        have he := eq_names t.name nm
        have Hs : Hid (InS wr W2.heap.size A5 n5 t.set) := hide hs
        obtain ⟨xn, xs, xz⟩ := t
        simp only [] at c1 c2 c3 he Hs hd
        obtain ⟨W5, hW5⟩ : ∃ W, W = wr.alloc (.cells #[.string xn, .slice A5 n5 c5, .bool xz] 77) := ⟨_, rfl⟩
        have hA5 : Below wr.heap.size wr W5 := by rw [hW5]; exact alloc_b _
        have b5 : Blk W5 wr.heap.size 77 #[.string xn, .slice A5 n5 c5, .bool xz] := by rw [hW5]; exact Blk.new _ _ _
        have k0 := (b5.cell 0).trans (show (#[Value.string xn, .slice A5 n5 c5, .bool xz] : Array Value)[0]? = some (.string xn) from rfl)
        have k1 := (b5.cell 1).trans (show (#[Value.string xn, .slice A5 n5 c5, .bool xz] : Array Value)[1]? = some (.slice A5 n5 c5) from rfl)
        have k2 := (b5.cell 2).trans (show (#[Value.string xn, .slice A5 n5 c5, .bool xz] : Array Value)[2]? = some (.bool xz) from rfl)
        have hN5 := hN.below hA5
        have hz5 : Below W2.heap.size W2 W5 := hbz.trans (hA5.mono hbzs)
        have hT5 := hT.below hA5
        have hz5s := hz5.size
        have hv5s : V.heap.size ≤ W5.heap.size := Nat.le_trans hbvs hA5.size
        go_upto_region 9 with fail
        try rw [← hW5]
        clear hW5 hx hs c1 c2 c3 HMk b5 hN hT
        by_cases hxn : xn = nm
        · rw [if_pos hxn] at hd
          rw [decide_eq_true hxn] at he
          have hne : (xn.toList != nm.toList) = false := by rw [bne, he]; rfl
          have Hd := hide hd
          clear hd hxn
          go_wp2
          go_roundw
          case rel => exact ⟨i + 1, m, _, by omega, by omega, by go_num, by rw [Hd.out]; exact hN5, hT5, hG, hv5s, hz5⟩
          case measure => simp [RowKit.intOf]; omega
        · rw [if_neg hxn] at hd
          rw [decide_eq_false hxn] at he
          have hne : (xn.toList != nm.toList) = true := by rw [bne, he]; rfl
          have Hd := hide (show [J] ++ dropC ((a ++ b).take (i + 1)) nm = ([J] ++ dropC ((a ++ b).take i) nm) ++ [⟨xn, xs, xz⟩] by rw [hd, List.append_assoc])
          clear hd hxn
          go_wp2_with (first
            | (at_builtin
               refine wpList_append_any _ rfl (.tmp 50) (.tmp 52) _ rfl W2.heap.size 77 i0 _ 3 48 Tryz.underlying41 hi0 hz0 hz1 hz2 rfl (by omega) _ m (tms rs) rfl
                 (own_below hN5.1 (alloc_b _)) _ _ 1 _ _ rfl (reads_term _ xn A5 n5 c5 xz _ _ (by simp)) (one_term _ _ _ _ _) (by unfold maxLen; omega) (by omega) (by simp; omega) ?_
               intro v9 w9 hown9 hg9 hat9
               have hA9 := (alloc_b (w := W5) (.cells #[.string xn, .slice A5 n5 c5, .bool xz] 77))
               have hI9 : InS W5 W2.heap.size A5 n5 xs := Hs.out.below hA5
               have N9 := (hN5.below hA9).cat (AllT.one (z := xz) (InS.below hI9 hA9)) hown9 hg9
               have hne9 : (Value.slice (some ad) k kc).ownBlock = none ∨ (Value.slice (some ad) k kc).ownBlock ≠ (Value.slice Ax m cx).ownBlock := by
                 rcases hB0 : (Value.slice (some ad) k kc).ownBlock with _ | q
                 · exact .inl rfl
                 · refine .inr fun e => ?_
                   have g1 := HB.out q hB0
                   rcases hG.out q e.symm with h7 | h7 <;> omega
               have hT9 : Tms w9 W2.heap.size (.slice (some ad) k kc) k rb (a ++ b) := ⟨World.ownsRow.kept (hT5.below hA9).1 hg9 hne9, (hT5.below hA9).2.mono fun _ _ _ hs => inS_grown hs (own_below hN5.1 hA9) (Nat.le_refl _) (by decide) hg9⟩
               have hG9 : Hid (∀ q, v9.ownBlock = some q → q = g3 ∨ V.heap.size ≤ q) := hide (fun q hq => by
                 rcases hat9 with h7 | h7
                 · exact hG.out q (h7.symm.trans hq)
                 · rw [h7] at hq
                   injection hq with hq
                   right
                   rw [World.size_alloc] at hq
                   omega)
               have hv9 : V.heap.size ≤ w9.heap.size := Nat.le_trans hv5s (Nat.le_trans hA9.size hg9.size)
               have h9 : Below W2.heap.size W2 w9 := (hz5.trans (hA9.mono hz5s)).grown hg9 (by simp; omega) (fun k hk => (hN5.1.lt k hk).1)))
          go_roundw
          case rel => exact ⟨i + 1, m + 1, _, by omega, by omega, by go_num, by rw [Hd.out]; exact N9, hT9, hG9, hv9, h9⟩
          case measure => simp [RowKit.intOf]; omega
      · have hin : (a ++ b).take i = a ++ b := by rw [List.take_of_length_le]; have := Hk.out; omega
        rw [hin] at hN hx0
        have HM2 := hide (HMk.out _ _ _ cx hx0)
        clear hin HMk hN hx0 hT
        go_wp2_with (first
          | (go_at_call 74
             refine HM2.out.mono ?_
             rintro e w9 ⟨A9, n9, c9, rfl, h9, hb9⟩))
        go_ret2
        exact ⟨A9, n9, c9, rfl, h9, hbW2.trans ((hbz.trans (hb9.mono hbzs)).mono hbW2.size)⟩
end Go.Proofs.YtdmejcfnolhplaaGreat.Fact
