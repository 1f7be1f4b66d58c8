/-
  Some texts of this claim, one behind the other: ProofTrim. What each proves, and its condition, stands at its head.
-/
import Derived.Test.YtdmejcfnolhplaaGreatZB36
import Derived.Test.YtdmejcfnolhplaaGreatZB12
import Derived.Test.YtdmejcfnolhplaaGreatZB9
import Derived.Test.YtdmejcfnolhplaaGreatZB8
import Derived.BigRegion
/-
  The contract of the program's Trim: the steps that a proof's last one uses. Condition: a proof that may be.
-/
namespace Go.Proofs.YtdmejcfnolhplaaGreat.Proof
open Go Go.RowKit Go.Lib Go.Proofs.YtdmejcfnolhplaaGreat.Grow
open Go.Proofs.YtdmejcfnolhplaaGreat.Label (clone_any)
set_option linter.unusedVariables false
theorem own_twoPf {w : World} {B gb n : Nat} {size : Nat} {T : TypeId} {v : Value} {xs : List Value} (h : w.ownsRow B T size v n xs) (hne : ∀ k, v.ownBlock = some k → k < gb) (i j : Nat) (x y : Value) : ((w.setCell ⟨gb, i, none⟩ x).setCell ⟨gb, j, none⟩ y).ownsRow B T size v n xs :=
  own_apart (own_apart h (set_only_ w gb i x) (fun k hk e => by injection e with e; have := hne k hk; omega)) (set_only_ _ gb j y) (fun k hk e => by injection e with e; have := hne k hk; omega)
theorem cell_reg_p {w : World} {p : Addr} {v : Value} (h : w.cell? p = some v) (hp : p.block < w.heap.size) (d : Nat) (os : Array Obj) : (Sort.grow (redrawn w d) os).cell? p = some v :=
  ((below_regrown w d os).cell hp).trans h
set_option maxRecDepth 100000 in
set_option maxHeartbeats 8000000 in
theorem trimPf_any (SM : SpecMarkPf) (l : List Sp) (A : Option Addr) (n c : Nat) (w : World) (h : PfOn w A n l) (hc : n ≤ c) (hokf : okPf l = true) :
    Calls Tryz.prog 21 #[.slice A n c] w (MakesPf w (trimT l)) := by
  obtain ⟨i0, hi0, hz0, hz1, hz2⟩ := info_parts info_pf
  unfold MakesPf
  have hlen := h.len
  obtain ⟨hn, hok, h1⟩ := okPf_steps hokf
  rw [hlen] at hn h1
  have hsm : ∀ q ∈ l, q.name.size ≤ 24 ∧ q.dest.size ≤ 24 := fun q hq => by
    obtain ⟨i, hi, rfl⟩ := List.getElem_of_mem hq
    have := may_ok (hok i l[i] (by simp)) (by omega)
    by_cases hk : (l[i]).kind = 3
    · exact ⟨this.2.1, (this.2.2.1 hk).2⟩
    · have e := (this.2.2.2.1 hk).1
      exact ⟨this.2.1, by rw [e]; decide⟩
  have HC := hide (fun (wx : World) (hx : Below w.heap.size w wx) => checkPf_any l A n c wx (h.on hx) (by omega) (fun s hs => by have := hsm s hs; omega))
  rw [hokf] at HC
  have HM := hide (fun (wx : World) (hx : Below w.heap.size w wx) => SM l A n c wx (h.on hx) hok h1 hn)
  have HS := hide (fun (g : Nat) (wx : World) (hr : wx.rowIs g 4 n (fun j => .bool (usedT l j))) => standPf_any l g n wx hr hn)
  obtain ⟨R, hR⟩ : ∃ R, R = trimT l := ⟨_, rfl⟩
  have HR : Hid (R = (List.range n).filterMap (leftT l)) := hide (by rw [hR]; unfold trimT; rw [hlen])
  rw [← hR]
  clear hR
  have Hlen := hide hlen
  clear hlen hokf SM
  go_enter Tryz.func21, Tryz.ntmps21
  go_upto_region 6 with (first
    | (go_at_call 30
       refine (HC.out _ (Below.refl _ _)).mono ?_
       rintro e w1 ⟨rfl, hb1⟩)
    | (go_at_call 35
       refine (HM.out _ hb1).mono ?_
       rintro e w2 ⟨rfl, hr2, hb2⟩)
    | (go_at_call 36
       refine (HS.out _ _ hr2).mono ?_
       rintro e V ⟨rfl, ha3, hb3⟩))
  have hlt2 := hr2.lt
  have hr3 := rowIs_below hr2 hb3 hlt2
  have hlt3 := ha3.lt
  have hlt3' := hr3.lt
  have hb2w := hb1.trans (hb2.mono hb1.size)
  have hbV : Below w.heap.size w V := hb2w.trans (hb3.mono hb2w.size)
  clear hr2 hb1 hb2 hb3 hlt2 HC HM HS hb2w
  generalize w1.heap.size = g1 at *
  generalize w2.heap.size = g2 at *
  go_wp2
  go_loopw [5, 17] (fun u v wx => ∃ (i : Nat) (Ao : Option Addr) (no co : Nat) (out : List Sp), i ≤ n ∧ u = .slice Ao no co ∧ v = .int .i64 (i : Int) ∧ Hid (out = (List.range i).filterMap (leftT l)) ∧ NewPf wx V.heap.size Ao no co out ∧ Below V.heap.size V wx) (fun _ v _ => n - (RowKit.intOf v).toNat)
  case atStart => exact ⟨0, none, 0, 0, [], by omega, rfl, rfl, hide rfl, NewPf.nil_ _ _, Below.refl _ _⟩
  case round =>
    obtain ⟨i, Ao, no, co, out, hi, rfl, rfl, hout, hN, hb⟩ := hrel
    have hbs := hb.size
    by_cases hlt : i < n
    · obtain ⟨ad, q, rfl, hbl, hx, c0, c1, c2, c3, c4, c5⟩ := PfIn.at_ (h.on (hbV.trans (hb.mono hbV.size))) hlt
      have hno : no = atT l i := by rw [hN.1]; exact left_len_ hout.out Hlen.out hi
      have hle : atT l i ≤ i := by unfold atT; exact Nat.le_trans (List.length_filter_le _ _) (by simp)
      have hno2 : no ≤ n := by omega
      have Hm := hide (left_more hx)
      have Hj4 := hide (fun hk => may_joined (hok i q hx) hk)
      have hsq := hsm q (List.mem_of_getElem? hx)
      have HC1 := hide (fun (wx : World) => clone_any q.name wx (by omega))
      have HC2 := hide (fun (wx : World) => clone_any q.dest wx (by omega))
      have xu := (rowIs_below hr3 hb hlt3').cell hlt
      have hat := rowIs_below ha3 hb hlt3
      have hown := hN.2.2.1
      have hownlt := fun k hk => (hown.lt k hk).2
      obtain ⟨k0, nm, v, d, a, b⟩ := q
      simp only [] at c0 c1 c2 c3 c4 c5 Hj4 HC1 HC2
      have j1 : (0 : Int) ≤ (i : Int) := by omega
      have j2 : (i : Int) < (n : Int) := by omega
      clear hx hno hsq hsm hok h hle
      have xu6 := fun o => (((rowIs_below hr3 hb hlt3').alloc o).cell hlt)
      cases hu : usedT l i with
      | false =>
        rw [hu] at Hm
        simp only [hu] at xu6
        have e := hide (show out = (List.range (i + 1)).filterMap (leftT l) by rw [Hm.out, ← hout.out, if_neg (by simp), List.append_nil])
        have hNx := hN.below (alloc_b wr (.cells #[.int .i64 k0, .string nm, .int .i64 v, .string d, .int .i64 a, .int .i64 b] 53))
        have hbx := hb.alloc hbs (.cells #[.int .i64 k0, .string nm, .int .i64 v, .string d, .int .i64 a, .int .i64 b] 53)
        clear Hm hout hu xu hat hown hN hb hr3 ha3
        go_wp2
        go_roundw
        case rel => exact ⟨i + 1, Ao, no, co, out, by omega, rfl, by go_num, e, hNx, hbx⟩
        case measure => simp [RowKit.intOf]; omega
      | true =>
        rw [hu] at Hm
        simp only [hu] at xu6
        have Hm2 := hide (show (List.range (i + 1)).filterMap (leftT l) = out ++ [reS l ⟨k0, nm, v, d, a, b⟩] by rw [Hm.out, ← hout.out, if_pos rfl])
        clear Hm hout hu xu
        go_upto_region 10 with fail
        have B6 := Blk.new wr 53 #[.int .i64 k0, .string nm, .int .i64 v, .string d, .int .i64 a, .int .i64 b]
        have hat6 := hat.alloc (.cells #[.int .i64 k0, .string nm, .int .i64 v, .string d, .int .i64 a, .int .i64 b] 53)
        have hown6 := hown.alloc (.cells #[.int .i64 k0, .string nm, .int .i64 v, .string d, .int .i64 a, .int .i64 b] 53)
        have hb6 := hb.alloc hbs (.cells #[.int .i64 k0, .string nm, .int .i64 v, .string d, .int .i64 a, .int .i64 b] 53)
        have hgb : V.heap.size ≤ wr.heap.size := hbs
        clear xu6 hat hown hN hb hr3 ha3 c0 c1 c2 c3 c4 c5 hbs
        generalize wr.alloc (.cells #[.int .i64 k0, .string nm, .int .i64 v, .string d, .int .i64 a, .int .i64 b] 53) = W6 at *
        generalize wr.heap.size = gb at *
        have p0 := (B6.cell 0).trans (show (#[Value.int .i64 k0, .string nm, .int .i64 v, .string d, .int .i64 a, .int .i64 b] : Array Value)[0]? = some (.int .i64 k0) from rfl)
        by_cases hk4 : k0 = 4
        · have hk41 : (k0 == 4) = true := beq_iff_eq.2 hk4
          obtain ⟨q1, q2, q3, q4⟩ := Hj4.out hk4
          obtain ⟨a', rfl⟩ : ∃ a' : Nat, a = (a' : Int) := ⟨a.toNat, by omega⟩
          obtain ⟨b', rfl⟩ : ∃ b' : Nat, b = (b' : Int) := ⟨b.toNat, by omega⟩
          have e : Hid ((List.range (i + 1)).filterMap (leftT l) = out ++ [⟨k0, nm, v, d, (atT l a' : Int), (atT l b' : Int)⟩]) := hide (by rw [Hm2.out]; unfold reS; simp only [hk4, if_true, Int.toNat_natCast])
          have ja2 : (a' : Int) < (n : Int) := by omega
          have jb2 : (b' : Int) < (n : Int) := by omega
          have xa := hat6.cell (i := a') (by omega)
          have xb := hat6.cell (i := b') (by omega)
          have hne2 : g2 ≠ gb := by omega
          have hat7 := hat6.setOther (a := ⟨gb, 4, none⟩) (by simp only []; exact hne2) (.int .i64 (atT l a' : Int))
          have xb7 := hat7.cell (i := b') (by omega)
          have p4 := (B6.cell 4).trans (show (#[Value.int .i64 k0, .string nm, .int .i64 v, .string d, .int .i64 (a' : Int), .int .i64 (b' : Int)] : Array Value)[4]? = some (.int .i64 (a' : Int)) from rfl)
          have p5 := (B6.cell 5).trans (show (#[Value.int .i64 k0, .string nm, .int .i64 v, .string d, .int .i64 (a' : Int), .int .i64 (b' : Int)] : Array Value)[5]? = some (.int .i64 (b' : Int)) from rfl)
          have f4 := B6.frozen 4
          have B7 := B6.set_ 4 (.int .i64 (atT l a' : Int))
          have p57 := (B7.cell 5).trans (show _ = some (.int .i64 (b' : Int)) from rfl)
          have f57 := B7.frozen 5
          have BW : Blk ((W6.setCell ⟨gb, 4, none⟩ (.int .i64 (atT l a' : Int))).setCell ⟨gb, 5, none⟩ (.int .i64 (atT l b' : Int))) gb 53 #[.int .i64 k0, .string nm, .int .i64 v, .string d, .int .i64 (atT l a' : Int), .int .i64 (atT l b' : Int)] := B7.set_ 5 (.int .i64 (atT l b' : Int))
          have hownW := own_twoPf hown6 hownlt 4 5 (.int .i64 (atT l a' : Int)) (.int .i64 (atT l b' : Int))
          have hbW := (hb6.setCell (p := ⟨gb, 4, none⟩) (by simp only []; omega) (.int .i64 (atT l a' : Int))).setCell (p := ⟨gb, 5, none⟩) (by simp only []; omega) (.int .i64 (atT l b' : Int))
          clear hk4 Hj4 Hm2 q1 q2 q3 q4 B7 hat7 hown6 hb6 hat6
          generalize atT l a' = ax at *
          generalize atT l b' = bx at *
          go_upto_region 11 with fail
          go_region
          clear xa xb xb7 p4 p5 f4 p57 f57 B6
          have hbW := hbW.drew
          have BW : Blk (((W6.setCell ⟨gb, 4, none⟩ (.int .i64 (ax : Int))).setCell ⟨gb, 5, none⟩ (.int .i64 (bx : Int))).drew) gb 53 #[.int .i64 k0, .string nm, .int .i64 v, .string d, .int .i64 (ax : Int), .int .i64 (bx : Int)] := BW
          have hownW : (((W6.setCell ⟨gb, 4, none⟩ (.int .i64 (ax : Int))).setCell ⟨gb, 5, none⟩ (.int .i64 (bx : Int))).drew).ownsRow V.heap.size 53 6 (.slice Ao no co) no (pfs out) := hownW
          have hbW : Below V.heap.size V (((W6.setCell ⟨gb, 4, none⟩ (.int .i64 (ax : Int))).setCell ⟨gb, 5, none⟩ (.int .i64 (bx : Int))).drew) := hbW
          generalize ((W6.setCell ⟨gb, 4, none⟩ (.int .i64 (ax : Int))).setCell ⟨gb, 5, none⟩ (.int .i64 (bx : Int))).drew = W8 at *
          go_upto_region 12 with fail
          have q1 := (BW.cell 1).trans (show (#[Value.int .i64 k0, .string nm, .int .i64 v, .string d, .int .i64 (ax : Int), .int .i64 (bx : Int)] : Array Value)[1]? = some (.string nm) from rfl)
          have q3 := (BW.cell 3).trans (show (#[Value.int .i64 k0, .string nm, .int .i64 v, .string d, .int .i64 (ax : Int), .int .i64 (bx : Int)] : Array Value)[3]? = some (.string d) from rfl)
          have r1 := cell_reg_p q1 BW.lt
          have r3 := cell_reg_p q3 BW.lt
          have hltW := BW.lt
          refine wp_region_grow_s [(44, isC (.string nm)), (47, isC (.string d))] [44, 47] 7 9 (fun w1 _ w' => w' = w1.setCell ⟨gb, 1, none⟩ (.string nm)) (fun w1 _ w' => w' = (w1.setCell ⟨gb, 1, none⟩ (.string nm)).setCell ⟨gb, 3, none⟩ (.string d)) _ _
            (by kernel_rfl) (by kernel_rfl) rfl (by kernel_rfl) (by kernel_rfl) (by kernel_rfl) rfl rfl rfl rfl (by decide) rfl (by kernel_rfl) (by kernel_rfl) (by kernel_rfl) ⟨isC_stable _, isC_stable _, trivial⟩ ?_
          repeat (first
            | (refine lexS_quiet (by decide) rfl rfl rfl (fun K hK => ?_); unfold Reg; go_big_quiet_op; refine hK _ ?_; clear hK K)
            | (refine lexS_rel (by decide) rfl rfl (fun w' hb9 hK => ?_) (fun vv w' hb9 hv => ?_)
               · unfold grows
                 go_simp
                 first
                   | (go_at_call_of 37 (Value.string nm)
                      exact call_isC (HC1.out w'))
                   | (go_at_call_of 37 (Value.string d)
                      exact call_isC (HC2.out w'))
               obtain rfl := hv
               simp only [Act.put, List.setIfInBounds_toArray, List.set_cons_zero, List.set_cons_succ])
            | (refine lexS_wr rfl rfl (fun w' hb9 hK => ?_) (fun vv w' w'' hb9 hv => ?_)
               · have hk1 := BW.below hb9 BW.lt
                 have kc := hk1.cell 1
                 have kf := hk1.frozen 1
                 unfold grows
                 go_simp
                 try exact rfl
               simp only [Act.put])
            | (refine lexS_late (by decide) (by decide) rfl rfl (fun K hK => ?_); go_big_quiet_op; refine hK _ ?_; clear hK K)
            | (refine lexS_last (by decide) rfl (fun w1 vv w' hb9 hS hd => ?_) (fun vv => ?_)
               · subst hS
                 have hk1 := (BW.below hb9 BW.lt).set_ 1 (.string nm)
                 have kc := hk1.cell 3
                 have kf := hk1.frozen 3
                 unfold grows
                 go_simp
                 try exact rfl
               simp only [Act.put]))
          refine lexS_nil (fun w9 w1 vv hC9 hS2 => ?_)
          have hb9 := reg_iff.1 hC9
          subst hS2
          have B9 := ((BW.below hb9 BW.lt).set_ 1 (.string nm)).set_ 3 (.string d)
          have hown9 := own_twoPf (own_below hownW hb9) hownlt 1 3 (.string nm) (.string d)
          have hbV9 : Below V.heap.size V ((w1.setCell ⟨gb, 1, none⟩ (.string nm)).setCell ⟨gb, 3, none⟩ (.string d)) := ((hbW.trans (hb9.mono hbW.size)).setCell (p := ⟨gb, 1, none⟩) (by simp only []; omega) _).setCell (p := ⟨gb, 3, none⟩) (by simp only []; omega) _
          clear hC9 hb9 q1 q3 r1 r3 BW hownW hbW
          generalize (w1.setCell ⟨gb, 1, none⟩ (.string nm)).setCell ⟨gb, 3, none⟩ (.string d) = W9 at *
          have B9 : Blk W9 gb 53 #[.int .i64 k0, .string nm, .int .i64 v, .string d, .int .i64 (ax : Int), .int .i64 (bx : Int)] := B9
          have p0 := (B9.cell 0).trans (show (#[Value.int .i64 k0, .string nm, .int .i64 v, .string d, .int .i64 (ax : Int), .int .i64 (bx : Int)] : Array Value)[0]? = some (.int .i64 k0) from rfl)
          have p1 := (B9.cell 1).trans (show (#[Value.int .i64 k0, .string nm, .int .i64 v, .string d, .int .i64 (ax : Int), .int .i64 (bx : Int)] : Array Value)[1]? = some (.string nm) from rfl)
          have p2 := (B9.cell 2).trans (show (#[Value.int .i64 k0, .string nm, .int .i64 v, .string d, .int .i64 (ax : Int), .int .i64 (bx : Int)] : Array Value)[2]? = some (.int .i64 v) from rfl)
          have p3 := (B9.cell 3).trans (show (#[Value.int .i64 k0, .string nm, .int .i64 v, .string d, .int .i64 (ax : Int), .int .i64 (bx : Int)] : Array Value)[3]? = some (.string d) from rfl)
          have p4 := (B9.cell 4).trans (show (#[Value.int .i64 k0, .string nm, .int .i64 v, .string d, .int .i64 (ax : Int), .int .i64 (bx : Int)] : Array Value)[4]? = some (.int .i64 (ax : Int)) from rfl)
          have p5 := (B9.cell 5).trans (show (#[Value.int .i64 k0, .string nm, .int .i64 v, .string d, .int .i64 (ax : Int), .int .i64 (bx : Int)] : Array Value)[5]? = some (.int .i64 (bx : Int)) from rfl)
          have hVW9 := hbV9.size
          clear B9
          go_wp2_with (first
            | (at_builtin
               refine wpList_append_any _ rfl (.tmp 50) (.tmp 52) _ rfl V.heap.size 53 i0 _ 6 64 Tryz.underlying24 hi0 hz0 hz1 hz2 rfl (by omega) _ _ _ rfl
                 (hown9.alloc _) _ _ 1 _ _ rfl (reads_pf W9 (⟨k0, nm, v, d, (ax : Int), (bx : Int)⟩ : Sp) _ _ rfl) (pfs_one _) (by unfold maxLen; omega) (by omega) (by simp; omega) ?_
               intro vA wA hownA hgA hatA
               have hlo := fun k hk => ((hown9.alloc (.cells #[.int .i64 ((⟨k0, nm, v, d, (ax : Int), (bx : Int)⟩ : Sp)).kind, .string ((⟨k0, nm, v, d, (ax : Int), (bx : Int)⟩ : Sp)).name, .int .i64 ((⟨k0, nm, v, d, (ax : Int), (bx : Int)⟩ : Sp)).ver, .string ((⟨k0, nm, v, d, (ax : Int), (bx : Int)⟩ : Sp)).dest, .int .i64 ((⟨k0, nm, v, d, (ax : Int), (bx : Int)⟩ : Sp)).a, .int .i64 ((⟨k0, nm, v, d, (ax : Int), (bx : Int)⟩ : Sp)).b] 53)).lt k hk).1
               have hbA : Below V.heap.size V wA := (hbV9.alloc hVW9 _).grown hgA (by simp; omega) (fun k hk => hlo k hk)
               rw [← pfs_append] at hownA
               obtain ⟨AA, cA, rfl, hNA⟩ := newPf_of_own hownA))
          go_roundw
          case rel => exact ⟨i + 1, AA, no + 1, cA, _, by omega, rfl, by go_num, hide e.out.symm, hNA, hbA⟩
          case measure => simp [RowKit.intOf]; omega
        · have hk41 : (k0 == 4) = false := beq_eq_false_iff_ne.2 hk4
          have e : Hid ((List.range (i + 1)).filterMap (leftT l) = out ++ [⟨k0, nm, v, d, a, b⟩]) := hide (by rw [Hm2.out]; unfold reS; simp only [hk4, if_false])
          have BW := B6
          have hownW := hown6
          have hbW := hb6
          clear hk4 Hj4 Hm2 B6 hown6 hb6 hat6
          go_upto_region 12 with fail
          have q1 := (BW.cell 1).trans (show (#[Value.int .i64 k0, .string nm, .int .i64 v, .string d, .int .i64 a, .int .i64 b] : Array Value)[1]? = some (.string nm) from rfl)
          have q3 := (BW.cell 3).trans (show (#[Value.int .i64 k0, .string nm, .int .i64 v, .string d, .int .i64 a, .int .i64 b] : Array Value)[3]? = some (.string d) from rfl)
          have r1 := cell_reg_p q1 BW.lt
          have r3 := cell_reg_p q3 BW.lt
          have hltW := BW.lt
          refine wp_region_grow_s [(44, isC (.string nm)), (47, isC (.string d))] [44, 47] 7 9 (fun w1 _ w' => w' = w1.setCell ⟨gb, 1, none⟩ (.string nm)) (fun w1 _ w' => w' = (w1.setCell ⟨gb, 1, none⟩ (.string nm)).setCell ⟨gb, 3, none⟩ (.string d)) _ _
            (by kernel_rfl) (by kernel_rfl) rfl (by kernel_rfl) (by kernel_rfl) (by kernel_rfl) rfl rfl rfl rfl (by decide) rfl (by kernel_rfl) (by kernel_rfl) (by kernel_rfl) ⟨isC_stable _, isC_stable _, trivial⟩ ?_
          repeat (first
            | (refine lexS_quiet (by decide) rfl rfl rfl (fun K hK => ?_); unfold Reg; go_big_quiet_op; refine hK _ ?_; clear hK K)
            | (refine lexS_rel (by decide) rfl rfl (fun w' hb9 hK => ?_) (fun vv w' hb9 hv => ?_)
               · unfold grows
                 go_simp
                 first
                   | (go_at_call_of 37 (Value.string nm)
                      exact call_isC (HC1.out w'))
                   | (go_at_call_of 37 (Value.string d)
                      exact call_isC (HC2.out w'))
               obtain rfl := hv
               simp only [Act.put, List.setIfInBounds_toArray, List.set_cons_zero, List.set_cons_succ])
            | (refine lexS_wr rfl rfl (fun w' hb9 hK => ?_) (fun vv w' w'' hb9 hv => ?_)
               · have hk1 := BW.below hb9 BW.lt
                 have kc := hk1.cell 1
                 have kf := hk1.frozen 1
                 unfold grows
                 go_simp
                 try exact rfl
               simp only [Act.put])
            | (refine lexS_late (by decide) (by decide) rfl rfl (fun K hK => ?_); go_big_quiet_op; refine hK _ ?_; clear hK K)
            | (refine lexS_last (by decide) rfl (fun w1 vv w' hb9 hS hd => ?_) (fun vv => ?_)
               · subst hS
                 have hk1 := (BW.below hb9 BW.lt).set_ 1 (.string nm)
                 have kc := hk1.cell 3
                 have kf := hk1.frozen 3
                 unfold grows
                 go_simp
                 try exact rfl
               simp only [Act.put]))
          refine lexS_nil (fun w9 w1 vv hC9 hS2 => ?_)
          have hb9 := reg_iff.1 hC9
          subst hS2
          have B9 := ((BW.below hb9 BW.lt).set_ 1 (.string nm)).set_ 3 (.string d)
          have hown9 := own_twoPf (own_below hownW hb9) hownlt 1 3 (.string nm) (.string d)
          have hbV9 : Below V.heap.size V ((w1.setCell ⟨gb, 1, none⟩ (.string nm)).setCell ⟨gb, 3, none⟩ (.string d)) := ((hbW.trans (hb9.mono hbW.size)).setCell (p := ⟨gb, 1, none⟩) (by simp only []; omega) _).setCell (p := ⟨gb, 3, none⟩) (by simp only []; omega) _
          clear hC9 hb9 q1 q3 r1 r3 BW hownW hbW
          generalize (w1.setCell ⟨gb, 1, none⟩ (.string nm)).setCell ⟨gb, 3, none⟩ (.string d) = W9 at *
          have B9 : Blk W9 gb 53 #[.int .i64 k0, .string nm, .int .i64 v, .string d, .int .i64 a, .int .i64 b] := B9
          have p0 := (B9.cell 0).trans (show (#[Value.int .i64 k0, .string nm, .int .i64 v, .string d, .int .i64 a, .int .i64 b] : Array Value)[0]? = some (.int .i64 k0) from rfl)
          have p1 := (B9.cell 1).trans (show (#[Value.int .i64 k0, .string nm, .int .i64 v, .string d, .int .i64 a, .int .i64 b] : Array Value)[1]? = some (.string nm) from rfl)
          have p2 := (B9.cell 2).trans (show (#[Value.int .i64 k0, .string nm, .int .i64 v, .string d, .int .i64 a, .int .i64 b] : Array Value)[2]? = some (.int .i64 v) from rfl)
          have p3 := (B9.cell 3).trans (show (#[Value.int .i64 k0, .string nm, .int .i64 v, .string d, .int .i64 a, .int .i64 b] : Array Value)[3]? = some (.string d) from rfl)
          have p4 := (B9.cell 4).trans (show (#[Value.int .i64 k0, .string nm, .int .i64 v, .string d, .int .i64 a, .int .i64 b] : Array Value)[4]? = some (.int .i64 a) from rfl)
          have p5 := (B9.cell 5).trans (show (#[Value.int .i64 k0, .string nm, .int .i64 v, .string d, .int .i64 a, .int .i64 b] : Array Value)[5]? = some (.int .i64 b) from rfl)
          have hVW9 := hbV9.size
          clear B9
          go_wp2_with (first
            | (at_builtin
               refine wpList_append_any _ rfl (.tmp 50) (.tmp 52) _ rfl V.heap.size 53 i0 _ 6 64 Tryz.underlying24 hi0 hz0 hz1 hz2 rfl (by omega) _ _ _ rfl
                 (hown9.alloc _) _ _ 1 _ _ rfl (reads_pf W9 (⟨k0, nm, v, d, a, b⟩ : Sp) _ _ rfl) (pfs_one _) (by unfold maxLen; omega) (by omega) (by simp; omega) ?_
               intro vA wA hownA hgA hatA
               have hlo := fun k hk => ((hown9.alloc (.cells #[.int .i64 ((⟨k0, nm, v, d, a, b⟩ : Sp)).kind, .string ((⟨k0, nm, v, d, a, b⟩ : Sp)).name, .int .i64 ((⟨k0, nm, v, d, a, b⟩ : Sp)).ver, .string ((⟨k0, nm, v, d, a, b⟩ : Sp)).dest, .int .i64 ((⟨k0, nm, v, d, a, b⟩ : Sp)).a, .int .i64 ((⟨k0, nm, v, d, a, b⟩ : Sp)).b] 53)).lt k hk).1
               have hbA : Below V.heap.size V wA := (hbV9.alloc hVW9 _).grown hgA (by simp; omega) (fun k hk => hlo k hk)
               rw [← pfs_append] at hownA
               obtain ⟨AA, cA, rfl, hNA⟩ := newPf_of_own hownA))
          go_roundw
          case rel => exact ⟨i + 1, AA, no + 1, cA, _, by omega, rfl, by go_num, hide e.out.symm, hNA, hbA⟩
          case measure => simp [RowKit.intOf]; omega
    · have hi2 : i = n := by omega
      subst hi2
      have e : Hid (out = R) := hide (by rw [HR.out]; exact hout.out)
      clear hout
      have hbw : Below w.heap.size w wr := hbV.trans (hb.mono hbV.size)
      go_wp2
      go_ret
      rw [← e.out]
      exact ⟨Ao, no, co, rfl, hN.less (Nat.zero_le _), hbw⟩
theorem specTrimPf (SM : SpecMarkPf) : SpecTrimPf := fun l A n c w h hc hok => (trimPf_any SM l A n c w h hc hok).mono fun _ _ hm => hm.tells
end Go.Proofs.YtdmejcfnolhplaaGreat.Proof
