/-
  Contracts of the document's Get, Drop and Put. Condition: no more than 1,000,000 picks.
-/
import Derived.Test.YtnkcjemobljpdaaDoorPickCells
namespace Go.Proofs.YtnkcjemobljpdaaDoor.Pick
open Go Go.RowKit Go.Lib Go.Proofs.YtnkcjemobljpdaaDoor.Need
set_option linter.unusedVariables false
set_option maxHeartbeats 2000000 in
theorem refGetP_any (l : List Pk) (nm : ByteArray) (A : Option Addr) (n c : Nat) (w : World) (h : PkOn w A n l) (hn : n ≤ 1000000) :
    Calls Tryd.prog 12 #[.slice A n c, .string nm] w fun e w' => e = .returned (.tuple #[.int .i64 ((getP l nm).getD 0), .bool (getP l nm).isSome]) ∧ w' = w := by
  have hlen := hide h.len
  have Hd := hide (fun i q => @getP_drop l nm i q)
  obtain ⟨r, hr⟩ : ∃ r, r = getP l nm := ⟨_, rfl⟩
  rw [← hr]
  have Hr := hide hr
  clear hr
  go_enter Tryd.func12, Tryd.ntmps12
  go_wp2
  go_loopw [6] (fun v wr => ∃ i : Nat, i ≤ n ∧ v = .int .i64 (i : Int) ∧ Hid (r = getP (l.drop i) nm) ∧ wr = w) (fun v _ => n - (RowKit.intOf v).toNat)
  case atStart => exact ⟨0, by omega, rfl, Hr, rfl⟩
  case round =>
    obtain ⟨i, hi, rfl, hf, rfl⟩ := hrel
    by_cases hlt : i < n
    · obtain ⟨ad, q, rfl, hbl, hx, c1, c2⟩ := PkIn.at_ h hlt
      have hd := hf.out.trans (Hd.out i q hx)
      have he := eq_names q.1 nm
      clear hx hf Hd Hr h
      by_cases hq : q.1 = nm
      · rw [if_pos hq] at hd
        rw [decide_eq_true hq] at he
        have e := hide hd
        clear hd hq
        go_wp2
        go_ret2
        exact ⟨by rw [e.out]; rfl, rfl⟩
      · rw [if_neg hq] at hd
        rw [decide_eq_false hq] at he
        have e := hide hd
        clear hd hq
        go_wp2
        go_roundw
        case rel => exact ⟨i + 1, by omega, by go_num, e, by trivial⟩
        case measure => simp [RowKit.intOf]; omega
    · have e : Hid (r = none) := hide (by rw [hf.out, List.drop_of_length_le (by have := hlen.out; omega)]; rfl)
      clear hf
      go_wp2
      go_ret2
      exact ⟨by rw [e.out]; rfl, rfl⟩
set_option maxHeartbeats 4000000 in
set_option maxRecDepth 100000 in
theorem refDropP_any (l : List Pk) (nm : ByteArray) (A : Option Addr) (n c : Nat) (w : World) (h : PkOn w A n l) (hn : n ≤ 1000000) :
    Calls Tryd.prog 14 #[.slice A n c, .string nm] w (MakesP w (dropP l nm)) := by
  obtain ⟨i0, hi0, hz0, hz1, hz2⟩ := info_parts info_pick
  unfold MakesP
  have hlen := hide h.len
  have Hd := hide (fun i q => @dropP_take l nm i q)
  have Hn : Hid (dropP (l.take 0) nm = []) := hide rfl
  have Hall : Hid (dropP (l.take n) nm = dropP l nm) := hide (by rw [List.take_of_length_le (by have := hlen.out; omega)])
  have Hle := hide (fun i => (show (dropP (l.take i) nm).length ≤ i from Nat.le_trans (List.length_filter_le _ _) (by rw [List.length_take]; omega)))
  generalize dropP l nm = R at *
  go_enter Tryd.func14, Tryd.ntmps14
  go_wp2
  go_loopw [5, 6] (fun u v wr => ∃ (i : Nat) (Ao : Option Addr) (no co : Nat), i ≤ n ∧ u = .slice Ao no co ∧ v = .int .i64 (i : Int) ∧ no ≤ i ∧ NewP wr w.heap.size Ao no co (dropP (l.take i) nm) ∧ Below w.heap.size w wr) (fun _ v _ => n - (RowKit.intOf v).toNat)
  case atStart => exact ⟨0, none, 0, 0, by omega, rfl, rfl, Nat.le_refl _, by rw [Hn.out]; exact NewP.nil_ _ _, Below.refl _ _⟩
  case round =>
    obtain ⟨i, Ao, no, co, hi, rfl, rfl, hno, hN, hb⟩ := hrel
    have hbs := hb.size
    by_cases hlt : i < n
    · obtain ⟨ad, q, rfl, hbl, hx, c1, c2⟩ := PkIn.at_ (PkIn.below h hb) hlt
      have hd := Hd.out i q hx
      have he := eq_names q.1 nm
      obtain ⟨x, v⟩ := q
      simp only [] at c1 c2 hd he
      clear hx
      by_cases hq : x = nm
      · rw [if_pos hq] at hd
        rw [decide_eq_true hq] at he
        rw [← hd] at hN
        clear hd hq h
        go_wp2
        go_roundw
        case rel => exact ⟨i + 1, Ao, no, co, by omega, rfl, by go_num, by omega, hN, hb⟩
        case measure => simp [RowKit.intOf]; omega
      · rw [if_neg hq] at hd
        rw [decide_eq_false hq] at he
        have hd2 := hide hd
        have hown := hN.2.2.1
        clear hd hq h
        go_wp2_with (at_builtin
                     refine wpList_append_any _ rfl (.tmp 20) (.tmp 25) _ rfl w.heap.size 24 i0 _ 2 24 Tryd.underlying22 hi0 hz0 hz1 hz2 rfl (by omega) _ _ _ rfl
                       (own_below hown ?_) _ _ 1 _ _ rfl (reads_pick _ x v _ (by simp)) (pks_one _) (by unfold maxLen; omega) (by omega) (by simp; omega) ?_
                     · exact (Below.refl _ _).alloc (Nat.le_refl _) _
                     intro v2 w2 hown2 hg2 hat2
                     have hb2 : Below w.heap.size w w2 := (hb.alloc hb.size _).grown hg2 (by simp; omega) (fun k hk => (hown.lt k hk).1)
                     have hs2 := hb2.size
                     rw [← pks_append, ← hd2.out] at hown2
                     obtain ⟨A2, c2', rfl, hN2⟩ := newP_of_own hown2)
        go_roundw
        case rel => exact ⟨i + 1, A2, no + 1, c2', by omega, rfl, by go_num, by omega, hN2, hb2⟩
        case measure => simp [RowKit.intOf]; omega
    · have hi2 : i = n := by omega
      subst hi2
      rw [Hall.out] at hN
      go_wp2
      go_ret
      exact ⟨Ao, no, co, rfl, hN.less (Nat.zero_le _), hb⟩
theorem ins_end (p : Pk) (b : Bool) {d : List Pk} {i : Nat} (h : d.length ≤ i) : insP p b (d.drop i) = if b = true then [] else [p] := by
  rw [List.drop_of_length_le h]; rfl
theorem ins_past (p : Pk) {d : List Pk} {i : Nat} {x : Pk} (h : d[i]? = some x) : insP p true (d.drop i) = x :: insP p true (d.drop (i + 1)) := by
  obtain ⟨hi, e⟩ := List.getElem?_eq_some_iff.1 h
  rw [List.drop_eq_getElem_cons hi, e, insP, if_neg (by simp)]
theorem ins_at (p : Pk) {d : List Pk} {i : Nat} {x : Pk} (h : d[i]? = some x) (g : nlt p.1 x.1 = true) : insP p false (d.drop i) = p :: x :: insP p true (d.drop (i + 1)) := by
  obtain ⟨hi, e⟩ := List.getElem?_eq_some_iff.1 h
  rw [List.drop_eq_getElem_cons hi, e, insP, if_pos ⟨rfl, g⟩]
theorem ins_ahead (p : Pk) {d : List Pk} {i : Nat} {x : Pk} (h : d[i]? = some x) (g : nlt p.1 x.1 = false) : insP p false (d.drop i) = x :: insP p false (d.drop (i + 1)) := by
  obtain ⟨hi, e⟩ := List.getElem?_eq_some_iff.1 h
  rw [List.drop_eq_getElem_cons hi, e, insP, if_neg (by rw [g]; simp)]
set_option maxHeartbeats 8000000 in
set_option maxRecDepth 100000 in
theorem refPutP_any (l : List Pk) (pn : ByteArray) (pv : Int) (A : Option Addr) (n c : Nat) (w : World) (h : PkOn w A n l) (hn : n ≤ 1000000) :
    Calls Tryd.prog 18 #[.slice A n c, .agg #[.string pn, .int .i64 pv]] w (MakesP w (putP l (pn, pv))) := by
  obtain ⟨i0, hi0, hz0, hz1, hz2⟩ := info_parts info_pick
  unfold MakesP
  have hlen := h.len
  have hdl : (dropP l pn).length ≤ 1000000 := Nat.le_trans (List.length_filter_le _ _) (by omega)
  have HD := hide (fun wx (hbx : Below w.heap.size w wx) => refDropP_any l pn A n c wx (h.on hbx) hn)
  obtain ⟨R, hR⟩ : ∃ R, R = putP l (pn, pv) := ⟨_, rfl⟩
  rw [← hR]
  have HR : Hid (R = insP (pn, pv) false (dropP l pn)) := hide hR
  clear hR hlen h
  generalize dropP l pn = d at *
  go_enter Tryd.func18, Tryd.ntmps18
  go_upto_region 2 with (first
    | (go_at_call 14
       refine (HD.out _ (alloc_b w (.cells #[.string pn, .int .i64 pv] 24))).mono ?_
       rintro e w1 ⟨Ad, nd, cd, rfl, hNd, hb1⟩))
  have hbk : Below w.heap.size w w1 := (alloc_b w (.cells #[.string pn, .int .i64 pv] 24)).trans (hb1.mono (by simp))
  have hblk : Blk w1 w.heap.size 24 #[.string pn, .int .i64 pv] := (Blk.new w 24 #[.string pn, .int .i64 pv]).below hb1 (by simp)
  have hdn : d.length = nd := hNd.1.symm
  have hdn2 : nd ≤ 1000000 := by omega
  have Hdn := hide hdn
  have hRd := hNd.2.2.2
  have hg0 := hblk.lt
  clear hdn hdl hNd HD
  generalize w.heap.size = g0 at hblk hg0 ⊢
  go_wp2
  go_loopw [5, 6, 7] (fun u v x wr => ∃ (i : Nat) (b : Bool) (Ao : Option Addr) (no co : Nat) (out : List Pk), i ≤ nd ∧ u = .slice Ao no co ∧ v = .bool b ∧ x = .int .i64 (i : Int) ∧ (no ≤ i ∨ (b = true ∧ no ≤ i + 1)) ∧
    NewP wr w1.heap.size Ao no co out ∧ Hid (R = out ++ insP (pn, pv) b (d.drop i)) ∧ Below w1.heap.size w1 wr) (fun _ _ x _ => nd - (RowKit.intOf x).toNat)
  case atStart => exact ⟨0, false, none, 0, 0, [], by omega, rfl, rfl, rfl, .inl (Nat.le_refl _), NewP.nil_ _ _, hide (by rw [HR.out]; rfl), Below.refl _ _⟩
  case round =>
    obtain ⟨i, b, Ao, no, co, out, hi, rfl, rfl, rfl, hno, hN, hf, hb⟩ := hrel
    have hbs := hb.size
    have hown := hN.2.2.1
    have k0 : wr.cell? ⟨g0, 0, none⟩ = some (.string pn) := ((hblk.below hb hg0).cell 0).trans rfl
    have k1 : wr.cell? ⟨g0, 1, none⟩ = some (.int .i64 pv) := ((hblk.below hb hg0).cell 1).trans rfl
    have hno2 : no ≤ 1000001 := by rcases hno with h | h <;> omega
    by_cases hlt : i < nd
    · obtain ⟨ad, q, rfl, hbl, hx, d1, d2⟩ := PkIn.at_ hRd hlt
      have r1 := hide (ins_past (pn, pv) hx)
      have r2 := hide (ins_at (pn, pv) hx)
      have r3 := hide (ins_ahead (pn, pv) hx)
      obtain ⟨x, v⟩ := q
      simp only [] at d1 d2 r1 r2 r3
      have c1 := (hb.cell (p := ad.add (i * 2)) (by rw [block_of_add]; exact hbl)).trans d1
      have c2 := (hb.cell (p := ⟨(ad.add (i * 2)).block, (ad.add (i * 2)).off + 1, none⟩) (by simp only [block_of_add]; exact hbl)).trans d2
      have j1 : (0 : Int) ≤ (i : Int) := by omega
      have j2 : (i : Int) < (nd : Int) := by omega
      clear hx
      cases b with
      | true =>
        have e := hide (hf.out.trans (congrArg (out ++ ·) r1.out))
        clear r1 r2 r3 hf
        go_upto_region 7 with fail
        go_quiet (fail)
        go_wp2_with (at_builtin
                     refine wpList_append_any _ rfl (.tmp 34) (.tmp 39) _ rfl w1.heap.size 24 i0 _ 2 24 Tryd.underlying22 hi0 hz0 hz1 hz2 rfl (by omega) _ _ _ rfl
                       (own_below hown ?_) _ _ 1 _ _ rfl (reads_pick _ x v _ (by simp)) (pks_one _) (by unfold maxLen; omega) (by omega) (by simp; omega) ?_
                     · exact (below_drewN (Below.refl _ _) _).alloc (Nat.le_refl _) _
                     intro v2 w2 hown2 hg2 hat2
                     have hb2 : Below w1.heap.size w1 w2 := ((below_drewN hb _).alloc (by simp; omega) _).grown hg2 (by simp; omega) (fun k hk => (hown.lt k hk).1)
                     rw [← pks_append] at hown2
                     obtain ⟨A2, c2', rfl, hN2⟩ := newP_of_own hown2)
        go_roundw
        case rel => exact ⟨i + 1, true, A2, no + 1, c2', _, by omega, rfl, rfl, by go_num, .inr ⟨rfl, by rcases hno with h | h <;> omega⟩, hN2, hide (by rw [e.out]; simp), hb2⟩
        case measure => simp [RowKit.intOf]; omega
      | false =>
        have hno3 : no ≤ i := by
          rcases hno with h | h
          · exact h
          · cases h.1
        clear hno
        cases g : nlt pn x with
        | true =>
          have f1 : Op.bytesLess pn.toList x.toList = true := g
          have e := hide (hf.out.trans (congrArg (out ++ ·) (r2.out g)))
          clear r1 r2 r3 hf g
          go_upto_region 7 with fail
          go_quiet (fail)
          go_wp2_with (first
            | (at_builtin
               have hdone := hb2
               refine wpList_append_any _ rfl (.tmp 34) (.tmp 39) _ rfl w1.heap.size 24 i0 _ 2 24 Tryd.underlying22 hi0 hz0 hz1 hz2 rfl (by omega) _ _ _ rfl
                 (own_below hown2 ?_) _ _ 1 _ _ rfl (reads_pick _ x v _ (by simp)) (pks_one _) (by unfold maxLen; omega) (by omega) (by simp; omega) ?_
               · exact (Below.refl _ _).alloc (Nat.le_refl _) _
               intro v3 w3 hown3 hg3 hat3
               have hb3 : Below w1.heap.size w1 w3 := (hb2.alloc hb2.size _).grown hg3 (by simp; omega) (fun k hk => (hown2.lt k hk).1)
               rw [← pks_append] at hown3
               obtain ⟨A3, c3', rfl, hN3⟩ := newP_of_own hown3)
            | (at_builtin
               refine wpList_append_any _ rfl (.tmp 30) (.tmp 32) _ rfl w1.heap.size 24 i0 _ 2 24 Tryd.underlying22 hi0 hz0 hz1 hz2 rfl (by omega) _ _ _ rfl
                 (own_below hown ?_) _ _ 1 _ _ rfl (reads_pick _ pn pv _ (by simp)) (pks_one _) (by unfold maxLen; omega) (by omega) (by simp; omega) ?_
               · exact (below_drewN (Below.refl _ _) _).alloc (Nat.le_refl _) _
               intro v2 w2 hown2 hg2 hat2
               have hb2 : Below w1.heap.size w1 w2 := ((below_drewN hb _).alloc (by simp; omega) _).grown hg2 (by simp; omega) (fun k hk => (hown.lt k hk).1)
               rw [← pks_append] at hown2
               obtain ⟨A2, c2', rfl, hN2⟩ := newP_of_own hown2
               have hs2 := hb2.size
               have c3 := (hb2.cell (p := ad.add (i * 2)) (by rw [block_of_add]; exact hbl)).trans d1
               have c4 := (hb2.cell (p := ⟨(ad.add (i * 2)).block, (ad.add (i * 2)).off + 1, none⟩) (by simp only [block_of_add]; exact hbl)).trans d2))
          go_roundw
          case rel => exact ⟨i + 1, true, A3, no + 1 + 1, c3', _, by omega, rfl, rfl, by go_num, .inr ⟨rfl, by omega⟩, hN3, hide (by rw [e.out]; simp), hb3⟩
          case measure => simp [RowKit.intOf]; omega
        | false =>
          have f1 : Op.bytesLess pn.toList x.toList = false := g
          have e := hide (hf.out.trans (congrArg (out ++ ·) (r3.out g)))
          clear r1 r2 r3 hf g
          go_upto_region 7 with fail
          go_quiet (fail)
          go_wp2_with (at_builtin
                       refine wpList_append_any _ rfl (.tmp 34) (.tmp 39) _ rfl w1.heap.size 24 i0 _ 2 24 Tryd.underlying22 hi0 hz0 hz1 hz2 rfl (by omega) _ _ _ rfl
                         (own_below hown ?_) _ _ 1 _ _ rfl (reads_pick _ x v _ (by simp)) (pks_one _) (by unfold maxLen; omega) (by omega) (by simp; omega) ?_
                       · exact (below_drewN (Below.refl _ _) _).alloc (Nat.le_refl _) _
                       intro v2 w2 hown2 hg2 hat2
                       have hb2 : Below w1.heap.size w1 w2 := ((below_drewN hb _).alloc (by simp; omega) _).grown hg2 (by simp; omega) (fun k hk => (hown.lt k hk).1)
                       rw [← pks_append] at hown2
                       obtain ⟨A2, c2', rfl, hN2⟩ := newP_of_own hown2)
          go_roundw
          case rel => exact ⟨i + 1, false, A2, no + 1, c2', _, by omega, rfl, rfl, by go_num, .inl (by omega), hN2, hide (by rw [e.out]; simp), hb2⟩
          case measure => simp [RowKit.intOf]; omega
    · have hz := hide (ins_end (pn, pv) b (d := d) (i := i) (by have := Hdn.out; omega))
      have e := hide (hf.out.trans (congrArg (out ++ ·) hz.out))
      have hi2 : i = nd := by omega
      subst hi2
      clear hf hz
      cases b with
      | true =>
        have e2 : Hid (R = out) := hide (by rw [e.out]; simp)
        clear e
        go_wp2
        go_ret
        refine ⟨Ao, no, co, rfl, ?_, hbk.trans (hb.mono hbk.size)⟩
        rw [e2.out]
        exact hN.less (Nat.zero_le _)
      | false =>
        have e2 : Hid (R = out ++ [(pn, pv)]) := hide (by rw [e.out]; simp)
        clear e
        go_wp2_with (at_builtin
                     refine wpList_append_any _ rfl (.tmp 43) (.tmp 45) _ rfl w1.heap.size 24 i0 _ 2 24 Tryd.underlying22 hi0 hz0 hz1 hz2 rfl (by omega) _ _ _ rfl
                       (own_below hown ?_) _ _ 1 _ _ rfl (reads_pick _ pn pv _ (by simp)) (pks_one _) (by unfold maxLen; omega) (by omega) (by simp; omega) ?_
                     · exact (Below.refl _ _).alloc (Nat.le_refl _) _
                     intro v2 w2 hown2 hg2 hat2
                     have hb2 : Below w1.heap.size w1 w2 := (hb.alloc hb.size _).grown hg2 (by simp; omega) (fun k hk => (hown.lt k hk).1)
                     rw [← pks_append] at hown2
                     obtain ⟨A2, c2', rfl, hN2⟩ := newP_of_own hown2)
        go_ret
        refine ⟨A2, _, c2', rfl, ?_, hbk.trans (hb2.mono hbk.size)⟩
        rw [e2.out]
        exact hN2.less (Nat.zero_le _)
end Go.Proofs.YtnkcjemobljpdaaDoor.Pick
