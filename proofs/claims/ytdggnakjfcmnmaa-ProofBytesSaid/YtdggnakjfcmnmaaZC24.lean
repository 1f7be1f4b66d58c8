/-
  Some texts of this claim, one behind the other: ProofRefTrim, ProofRefRead. What each proves, and its condition, stands at its head.
-/
import Derived.Test.YtdggnakjfcmnmaaZC9
import Derived.Test.YtdggnakjfcmnmaaZC15
import Derived.Test.YtdggnakjfcmnmaaZC22
import Derived.Deep.OwnRows
import Derived.Test.YtdggnakjfcmnmaaZC23
import Derived.Test.YtdggnakjfcmnmaaZC14
/-
  The contract of the document's own Trim of a proof: the steps that its last one uses. Condition: a proof that may be.
-/
namespace Go.Proofs.Ytdggnakjfcmnmaa.Proof
open Go Go.RowKit Go.Lib Go.Proofs.Ytdggnakjfcmnmaa.Need
set_option linter.unusedVariables false
theorem rowIs_below {w w' : World} {b B n : Nat} {t : TypeId} {f : Nat → Value} (h : w.rowIs b t n f) (hb : Below B w w') (hg : b < B) : w'.rowIs b t n f := h.of_block (hb.block b hg)
theorem own_apart {w w' : World} {B size n : Nat} {T : TypeId} {v : Value} {xs : List Value} {row : Option Nat} (h : w.ownsRow B T size v n xs) (hg : w.grownBy w' row) (hne : ∀ b, v.ownBlock = some b → some b ≠ row) : w'.ownsRow B T size v n xs := by
  refine ⟨h.1, ?_⟩
  rcases h.2 with hn | ⟨g, cap, cur, hv, hB, hh, r⟩
  · exact .inl hn
  · exact .inr ⟨g, cap, cur, hv, hB, (hg.block g (Array.getElem?_eq_some_iff.1 hh).1 (hne g (by rw [hv]; rfl))).trans hh, r⟩
theorem NewPf.store {w : World} {B n c : Nat} {A : Option Addr} {l : List Sp} (h : NewPf w B A n c l) {g : Nat} (hg : g < B) (i : Nat) (u : Value) : NewPf (w.setCell ⟨g, i, none⟩ u) B A n c l := by
  have hown := own_apart h.2.2.1 (only_setCell (p := ⟨g, i, none⟩) (only_self w g) (.inl rfl) u) (fun b hb e => by
    injection e with e
    have := (h.2.2.1.lt b hb).1
    omega)
  obtain ⟨A', c', e, hN⟩ := newPf_of_own hown
  injection e with e1 e2 e3
  subst e1 e3
  exact hN
theorem set_only_ (w : World) (b i : Nat) (u : Value) : w.grownBy (w.setCell ⟨b, i, none⟩ u) (some b) := only_setCell (p := ⟨b, i, none⟩) (only_self w b) (.inl rfl) _
theorem left_len_ {l : List Sp} {i n : Nat} {out : List Sp} (h : out = (List.range i).filterMap (leftT l)) (hl : l.length = n) (hi : i ≤ n) : out.length = atT l i := by
  rw [h]
  exact left_len i (by omega)
theorem at_row {l : List Sp} {At : Nat → Nat} {i no : Nat} (h : ∀ j, j < i → At j = atT l j) (hno : no = atT l i) : ∀ j, j < i + 1 → (if j = i then no else At j) = atT l j := fun j hj => by
  by_cases e : j = i
  · rw [if_pos e, e]; exact hno
  · rw [if_neg e]; exact h j (by omega)
theorem at_cells (At : Nat → Nat) (i no j : Nat) : (if j = i then Value.int .i64 (no : Int) else Value.int .i64 (At j : Int)) = Value.int .i64 (((if j = i then no else At j : Nat)) : Int) := by
  by_cases e : j = i
  · rw [if_pos e, if_pos e]
  · rw [if_neg e, if_neg e]
theorem left_more {l : List Sp} {i : Nat} {s : Sp} (hs : l[i]? = some s) : (List.range (i + 1)).filterMap (leftT l) = (List.range i).filterMap (leftT l) ++ (if usedT l i = true then [reS l s] else []) := by
  rw [List.range_succ, List.filterMap_append]
  congr 1
  unfold leftT
  by_cases hu : usedT l i = true
  · simp [hs, hu]
  · simp [hs, hu]
theorem mark_next {l : List Sp} {j : Nat} {s : Sp} (hs : l[j]? = some s) (u : Nat → Bool) : markT l (j + 1) u = markT l j (if u j = true ∧ s.kind = 4 then setU (setU u s.a.toNat) s.b.toNat else u) := by
  unfold markT
  rw [step_some hs]
  cases j <;> rfl
theorem set_two (u : Nat → Bool) (a b : Nat) (j : Nat) : (if j = b then Value.bool true else if j = a then Value.bool true else Value.bool (u j)) = Value.bool (setU (setU u a) b j) := by
  unfold setU
  by_cases h1 : j = b
  · simp [h1]
  · by_cases h2 : j = a
    · simp [h2]
    · simp [h1, h2]
end Go.Proofs.Ytdggnakjfcmnmaa.Proof
/-
  The contract of the document's own Read of a proof. Condition: no more than 2^40 bytes.
-/
namespace Go.Proofs.Ytdggnakjfcmnmaa.Proof
open Go Go.RowKit Go.Lib Go.Proofs.Ytdggnakjfcmnmaa.Need Go.Proofs.Ytdggnakjfcmnmaa.Wire
open Go.Proofs.Ytdggnakjfcmnmaa.Vlq (closedM)
set_option linter.unusedVariables false
theorem read_stop {b : List UInt8} {N i : Nat} {s1 : St} (he : pfS (b, 0) = listS stepS N s1) (hi : i ≤ N) (h : i = N ∨ (listS stepS i s1).2.2 ≠ 0) :
    errPf b = (if closedM (listS stepS i s1).2.1 (listS stepS i s1).2.2 ≠ 0 then closedM (listS stepS i s1).2.1 (listS stepS i s1).2.2 else if okPf (listS stepS i s1).1 = true then 0 else 3) ∧ readPf b = (if errPf b = 0 then (listS stepS i s1).1 else []) := by
  rcases h with rfl | h
  · refine ⟨by unfold errPf; rw [he], ?_⟩
    unfold readPf
    rw [he]
  · have hc : closedM (listS stepS i s1).2.1 (listS stepS i s1).2.2 ≠ 0 := by unfold closedM; rw [if_pos h]; exact h
    have e2 := listS_end N i s1 hi h
    have e1 : errPf b = closedM (listS stepS i s1).2.1 (listS stepS i s1).2.2 := by
      unfold errPf
      rw [he, e2, if_pos hc]
    refine ⟨by rw [if_pos hc, e1], ?_⟩
    rw [if_neg (by rw [e1]; exact hc)]
    unfold readPf
    rw [if_neg (by rw [e1]; exact hc)]
theorem NewPf.far {w w' : World} {B n c g : Nat} {A : Option Addr} {l : List Sp} (h : NewPf w B A n c l) (hg : w.grownBy w' (some g)) (hne : (Value.slice A n c).ownBlock ≠ some g) : NewPf w' B A n c l := by
  have hown := own_apart h.2.2.1 hg (fun b hb e => hne (by rw [hb, e]))
  obtain ⟨A', c', e, hN⟩ := newPf_of_own hown
  injection e with e1 e2 e3
  subst e1 e3
  exact hN
def PackP (w : World) (gb : Nat) (arr : Array Value) (A : Option Addr) (n c : Nat) (L : List Sp) (W : World) : Prop :=
  Blk W gb 40 arr ∧ NewPf W (w.heap.size + 1) A n c L ∧ Below w.heap.size w W ∧ (Value.slice A n c).ownBlock ≠ some gb ∧ w.heap.size + 1 ≤ gb
theorem own_low {w W : World} {A : Option Addr} {n c : Nat} {L : List Sp} (h : NewPf W (w.heap.size + 1) A n c L) : (Value.slice A n c).ownBlock ≠ some w.heap.size := fun e => by
  have := (h.2.2.1.lt _ e).1
  omega
theorem PackP.call {w W W' : World} {gb n c : Nat} {arr : Array Value} {A : Option Addr} {L : List Sp} (h : PackP w gb arr A n c L W) (hg : W.grownBy W' (some w.heap.size)) (_ : w.heap.size ≤ w.heap.size) (_ : w.heap.size ≤ w.heap.size) : PackP w gb arr A n c L W' :=
  ⟨h.1.grown hg (by intro e; injection e with e; have := h.2.2.2.2; omega), h.2.1.far hg (own_low h.2.1), h.2.2.1.grown hg h.2.2.1.size (fun k hk => by injection hk with hk; omega), h.2.2.2⟩
theorem PackP.store {w W : World} {gb n c : Nat} {arr : Array Value} {A : Option Addr} {L : List Sp} (h : PackP w gb arr A n c L W) (j : Nat) (u : Value) : PackP w gb (arr.setIfInBounds j u) A n c L (W.setCell ⟨gb, j, none⟩ u) :=
  ⟨h.1.set_ j u, h.2.1.far (only_setCell (p := ⟨gb, j, none⟩) (only_self W gb) (.inl rfl) u) h.2.2.2.1, h.2.2.1.setCell (p := ⟨gb, j, none⟩) (by have := h.2.2.2.2; simp only []; omega) u, h.2.2.2⟩
set_option maxHeartbeats 8000000 in
set_option maxRecDepth 100000 in
theorem refReadPf_any (b : List UInt8) (w : World) (hsmall : b.length ≤ 1099511627776) :
    Calls Try.prog 19 #[.string (str b)] w fun e w' => ∃ A n c, e = .returned (.tuple #[.slice A n c, .int .i64 (errPf b)]) ∧ n ≤ c ∧ PfOn w' A n (readPf b) ∧ Below w.heap.size w w' := by
  obtain ⟨i0, hi0, hz0, hz1, hz2⟩ := info_parts info_pf
  have HN := hide (fun (g : Nat) (m : Int) (ss : St) (wx : World) (hx : RdD wx g ss) => num_D g ss m wx hx)
  have HS := hide (fun (g : Nat) (ss : St) (wx : World) (hx : RdD wx g ss) => str_D g ss 24 wx hx)
  have HC := hide (fun (g : Nat) (ss : St) (wx : World) (hx : RdD wx g ss) => close_D g ss wx hx)
  have HN0 := hide (fun (g : Nat) (wx : World) (hx : RdD wx g (b, 0)) => num_D g (b, 0) 1048576 wx hx)
  have h1 := numS_le 1048576 (by omega) (b, 0)
  have em : pfS (b, 0) = listS stepS (numS 1048576 (b, 0)).1.toNat (numS 1048576 (b, 0)).2 := rfl
  obtain ⟨N, hN⟩ : ∃ N : Nat, (numS 1048576 (b, 0)).1 = (N : Int) := ⟨(numS 1048576 (b, 0)).1.toNat, by omega⟩
  rw [hN] at em h1
  simp only [hN] at HN0
  rw [Int.toNat_natCast] at em
  have hN2 : N ≤ 1048576 := by omega
  generalize (numS 1048576 (b, 0)).2 = s1 at *
  have Hstop := hide (fun (i : Nat) => @read_stop b N i s1 em)
  have Hfine : Hid (∀ i, ∀ x ∈ (listS stepS i s1).1, FineS x) := hide (fun i => listS_all stepS_fine i s1)
  have Hlen : Hid (∀ i, (listS stepS i s1).1.length = i) := hide (fun i => listS_len stepS i s1)
  clear em hN h1
  generalize errPf b = eb at *
  generalize readPf b = rb at *
  go_enter Try.func19, Try.ntmps19
  go_upto_region 2 with fail
  have r1 : RdD (w.alloc (.cells #[.string (str b), .int .i64 0] 63)) w.heap.size (b, 0) := ⟨Blk.new _ _ _, hsmall⟩
  have y1 : Below w.heap.size w (w.alloc (.cells #[.string (str b), .int .i64 0] 63)) := alloc_b _ _
  generalize w.alloc (.cells #[.string (str b), .int .i64 0] 63) = W1 at *
  go_wp2_with (first
    | (go_at_call 37
       refine (HN0.out w.heap.size W1 r1).mono ?_
       rintro e w2 ⟨rfl, r2, g2⟩
       have y2 : Below w.heap.size w w2 := y1.grown g2 y1.size (fun k hk => by injection hk with hk; omega)))
  clear r1 y1 g2 HN0
  go_loopw [6, 7] (fun u v wr => ∃ (i : Nat) (A : Option Addr) (c : Nat), i ≤ N ∧ u = .slice A i c ∧ v = .int .i64 (i : Int) ∧ NewPf wr (w.heap.size + 1) A i c (listS stepS i s1).1 ∧ RdD wr w.heap.size (listS stepS i s1).2 ∧ Below w.heap.size w wr) (fun _ v _ => N - (RowKit.intOf v).toNat)
  case atStart => exact ⟨0, none, 0, by omega, rfl, rfl, NewPf.nil_ _ _, r2, y2⟩
  case round =>
    obtain ⟨i, A, c, hi, rfl, rfl, hNw, hR, hb⟩ := hrel
    clear r2 y2
    have hbs := hb.size
    have hRb := hR.1
    have ke := (hRb.cell 1).trans (show (#[Value.string (str (listS stepS i s1).2.1), .int .i64 (listS stepS i s1).2.2] : Array Value)[1]? = some (.int .i64 (listS stepS i s1).2.2) from rfl)
    have Hst : Hid (listS stepS (i + 1) s1 = ((listS stepS i s1).1 ++ [(stepS (listS stepS i s1).2).1], (stepS (listS stepS i s1).2).2)) := hide rfl
    have Hsi := hide (fun h => Hstop.out i hi h)
    have Hfi := hide (Hfine.out i)
    have Hli := hide (Hlen.out i)
    have HCi := hide (HC.out w.heap.size (listS stepS i s1).2 wr hR)
    by_cases hgo : i < N ∧ (listS stepS i s1).2.2 = 0
    · obtain ⟨hlt, he0⟩ := hgo
      have he1 : ((listS stepS i s1).2.2 == 0) = true := beq_iff_eq.2 he0
      have hlt2 : (i : Int) < (N : Int) := by omega
      clear Hsi Hfi HCi he0
      generalize (listS stepS i s1).1 = L at *
      generalize (listS stepS i s1).2 = ss at *
      generalize ss.2 = ser at *
      obtain ⟨K, hK⟩ : ∃ K, K = numS 4 ss := ⟨_, rfl⟩
      obtain ⟨M, hM⟩ : ∃ M, M = strS 24 K.2 := ⟨_, rfl⟩
      have HA := hide (HN.out w.heap.size 4 ss wr hR)
      have HB := hide (fun (wx : World) (hx : RdD wx w.heap.size K.2) => HS.out w.heap.size K.2 wx hx)
      rw [← hK] at HA
      rw [← hM] at HB
      have Hk : Hid (stepS ss = if K.1 = 3 then (⟨K.1, str M.1, (numS 1000000000 M.2).1, str (strS 24 (numS 1000000000 M.2).2).1, 0, 0⟩, (strS 24 (numS 1000000000 M.2).2).2) else if K.1 = 4 then (⟨K.1, str M.1, 0, ByteArray.empty, (numS 1048576 M.2).1, (numS 1048576 (numS 1048576 M.2).2).1⟩, (numS 1048576 (numS 1048576 M.2).2).2) else (⟨K.1, str M.1, 0, ByteArray.empty, 0, 0⟩, M.2)) := hide (by unfold stepS kindS nameS; rw [← hK]; simp only []; rw [← hM])
      clear hK hM
      generalize hK2 : K.2 = t0 at *
      generalize hK1 : K.1 = k at *
      generalize hM2 : M.2 = t at *
      generalize hM1 : str M.1 = nm at *
      clear hK2 hK1 hM2 hM1
      go_upto_region 8 with (first
        | (go_at_call 37
           refine HA.out.mono ?_
           rintro e w5 ⟨rfl, r5, g5⟩
           have N5 := hNw.far g5 (own_low hNw)
           have y5 : Below w.heap.size w w5 := hb.grown g5 hbs (fun k hk => by injection hk with hk; omega))
        | (go_at_call 38
           refine (HB.out _ r5).mono ?_
           rintro e w6 ⟨rfl, r6, g6⟩
           have N6 := N5.far g6 (own_low N5)
           have y6 : Below w.heap.size w w6 := y5.grown g6 y5.size (fun k hk => by injection hk with hk; omega)))
      have r6l := r6.lt
      have P0 : PackP w w6.heap.size #[.int .i64 k, .string nm, .int .i64 0, .string ⟨#[]⟩, .int .i64 0, .int .i64 0] A i c L (w6.alloc (.cells #[.int .i64 k, .string nm, .int .i64 0, .string ⟨#[]⟩, .int .i64 0, .int .i64 0] 40)) := ⟨Blk.new _ _ _, N6.below (alloc_b _ _), y6.alloc y6.size _, fun e => by have := (N6.2.2.1.lt _ e).2; omega, by omega⟩
      have r0 := r6.alloc (.cells #[.int .i64 k, .string nm, .int .i64 0, .string ⟨#[]⟩, .int .i64 0, .int .i64 0] 40)
      have hgb : w.heap.size + 1 ≤ w6.heap.size := by omega
      clear r5 g5 N5 y5 r6 g6 N6 y6 HA HB hNw hb hR hRb ke he1 HC Hfine Hlen
      generalize w6.alloc (.cells #[.int .i64 k, .string nm, .int .i64 0, .string ⟨#[]⟩, .int .i64 0, .int .i64 0] 40) = W0 at *
      generalize w6.heap.size = gb at *
      have B0 := P0.1
      have m0 := (B0.cell 0).trans (show (#[Value.int .i64 k, .string nm, .int .i64 0, .string ⟨#[]⟩, .int .i64 0, .int .i64 0] : Array Value)[0]? = some (.int .i64 k) from rfl)
      by_cases hk3 : k = 3
      · have hk31 : (k == 3) = true := beq_iff_eq.2 hk3
        have hk41 : (k == 4) = false := beq_eq_false_iff_ne.2 (by omega)
        rw [Hk.out, if_pos hk3] at Hst
        simp only at Hst
        clear hk3 Hk
        have HA := hide (HN.out w.heap.size 1000000000 t)
        have HB := hide (HS.out w.heap.size (numS 1000000000 t).2)
        clear HN HS
        generalize hq1 : (numS 1000000000 t).2 = t1 at *
        generalize hq2 : (numS 1000000000 t).1 = v at *
        generalize hq3 : (strS 24 t1).2 = t2 at *
        generalize hq4 : str (strS 24 t1).1 = d at *
        clear hq1 hq2 hq3 hq4 B0
        go_upto_region 10 with (first
          | (go_at_call 37
             refine (HA.out W0 r0).mono ?_
             rintro e w7 ⟨rfl, r7, g7⟩
             have P7 := P0.call g7 (by omega) (by omega)
             have B7 := P7.1
             have f7 := B7.frozen 2
             have k2 := (B7.cell 2).trans (show (#[Value.int .i64 k, .string nm, .int .i64 0, .string ⟨#[]⟩, .int .i64 0, .int .i64 0] : Array Value)[2]? = some (.int .i64 0) from rfl)))
        have P8 := P7.store 2 (.int .i64 v)
        have r8 := r7.grown (only_setCell (p := ⟨gb, 2, none⟩) (only_self w7 gb) (.inl rfl) (.int .i64 v)) (fun e => by injection e with e; omega)
        clear r7 P7 B7 f7 k2 HA P0 r0 g7
        generalize w7.setCell ⟨gb, 2, none⟩ (.int .i64 v) = W8 at *
        go_upto_region 11 with (first
          | (go_at_call 38
             refine (HB.out W8 r8).mono ?_
             rintro e w7 ⟨rfl, r7, g7⟩
             have P7 := P8.call g7 (by omega) (by omega)
             have B7 := P7.1
             have f7 := B7.frozen 3
             have k3 := (B7.cell 3).trans (show (#[Value.int .i64 k, .string nm, .int .i64 v, .string ⟨#[]⟩, .int .i64 0, .int .i64 0] : Array Value)[3]? = some (.string ⟨#[]⟩) from rfl)))
        have P9 := P7.store 3 (.string d)
        have r9 := r7.grown (only_setCell (p := ⟨gb, 3, none⟩) (only_self w7 gb) (.inl rfl) (.string d)) (fun e => by injection e with e; omega)
        clear r7 P7 B7 f7 k3 HB P8 r8 g7
        generalize w7.setCell ⟨gb, 3, none⟩ (.string d) = W9 at *
        have B9 := P9.1
        have p0 := (B9.cell 0).trans (show _ = some (.int .i64 k) from rfl)
        have p1 := (B9.cell 1).trans (show _ = some (.string nm) from rfl)
        have p2 := (B9.cell 2).trans (show _ = some (.int .i64 v) from rfl)
        have p3 := (B9.cell 3).trans (show _ = some (.string d) from rfl)
        have p4 := (B9.cell 4).trans (show _ = some (.int .i64 0) from rfl)
        have p5 := (B9.cell 5).trans (show _ = some (.int .i64 0) from rfl)
        have hownW := P9.2.1.2.2.1
        have hbW := P9.2.2.1
        have rW := r9
        clear r9 B9
        have hWs := hbW.size
        go_wp2_with (first
          | (at_builtin
             refine wpList_append_any _ rfl (.tmp 50) (.tmp 52) _ rfl (w.heap.size + 1) 40 i0 _ 6 64 Try.underlying22 hi0 hz0 hz1 hz2 rfl (by omega) _ _ _ rfl
               (hownW.alloc _) _ _ 1 _ _ rfl (reads_pf W9 (⟨k, nm, v, d, 0, 0⟩ : Sp) _ _ rfl) (pfs_one _) (by unfold maxLen; omega) (by omega) (by simp; omega) ?_
             intro v9 w9 hown9 hg9 hat9
             have hlo := fun kb hkb => ((hownW.alloc (.cells #[.int .i64 ((⟨k, nm, v, d, 0, 0⟩ : Sp)).kind, .string ((⟨k, nm, v, d, 0, 0⟩ : Sp)).name, .int .i64 ((⟨k, nm, v, d, 0, 0⟩ : Sp)).ver, .string ((⟨k, nm, v, d, 0, 0⟩ : Sp)).dest, .int .i64 ((⟨k, nm, v, d, 0, 0⟩ : Sp)).a, .int .i64 ((⟨k, nm, v, d, 0, 0⟩ : Sp)).b] 40)).lt kb hkb).1
             have hb9 : Below w.heap.size w w9 := (hbW.alloc hbW.size _).grown hg9 (by have := hbW.size; simp; omega) (fun k hk => by have := hlo k hk; omega)
             have r9 : RdD w9 w.heap.size t2 := (rW.alloc _).grown hg9 (fun e => by have := hlo _ e.symm; omega)
             rw [← pfs_append] at hown9
             obtain ⟨A9, c9, rfl, hN9⟩ := newPf_of_own hown9))
        go_roundw
        case rel => exact ⟨i + 1, A9, c9, by omega, rfl, by go_num, by rw [Hst.out]; exact hN9, by rw [Hst.out]; exact r9, hb9⟩
        case measure => simp [RowKit.intOf]; omega
      · have hk31 : (k == 3) = false := beq_eq_false_iff_ne.2 hk3
        by_cases hk4 : k = 4
        · have hk41 : (k == 4) = true := beq_iff_eq.2 hk4
          rw [Hk.out, if_neg hk3, if_pos hk4] at Hst
          simp only at Hst
          clear hk3 hk4 Hk
          have HA := hide (HN.out w.heap.size 1048576 t)
          have HB := hide (HN.out w.heap.size 1048576 (numS 1048576 t).2)
          clear HN HS
          generalize hq1 : (numS 1048576 t).2 = t1 at *
          generalize hq2 : (numS 1048576 t).1 = v at *
          generalize hq3 : (numS 1048576 t1).2 = t2 at *
          generalize hq4 : (numS 1048576 t1).1 = d at *
          clear hq1 hq2 hq3 hq4 B0
          go_upto_region 13 with (first
            | (go_at_call 37
               refine (HA.out W0 r0).mono ?_
               rintro e w7 ⟨rfl, r7, g7⟩
               have P7 := P0.call g7 (by omega) (by omega)
               have B7 := P7.1
               have f7 := B7.frozen 4
               have k4 := (B7.cell 4).trans (show (#[Value.int .i64 k, .string nm, .int .i64 0, .string ⟨#[]⟩, .int .i64 0, .int .i64 0] : Array Value)[4]? = some (.int .i64 0) from rfl)))
          have P8 := P7.store 4 (.int .i64 v)
          have r8 := r7.grown (only_setCell (p := ⟨gb, 4, none⟩) (only_self w7 gb) (.inl rfl) (.int .i64 v)) (fun e => by injection e with e; omega)
          clear r7 P7 B7 f7 k4 HA P0 r0 g7
          generalize w7.setCell ⟨gb, 4, none⟩ (.int .i64 v) = W8 at *
          go_upto_region 14 with (first
            | (go_at_call 37
               refine (HB.out W8 r8).mono ?_
               rintro e w7 ⟨rfl, r7, g7⟩
               have P7 := P8.call g7 (by omega) (by omega)
               have B7 := P7.1
               have f7 := B7.frozen 5
               have k5 := (B7.cell 5).trans (show (#[Value.int .i64 k, .string nm, .int .i64 0, .string ⟨#[]⟩, .int .i64 v, .int .i64 0] : Array Value)[5]? = some (.int .i64 0) from rfl)))
          have P9 := P7.store 5 (.int .i64 d)
          have r9 := r7.grown (only_setCell (p := ⟨gb, 5, none⟩) (only_self w7 gb) (.inl rfl) (.int .i64 d)) (fun e => by injection e with e; omega)
          clear r7 P7 B7 f7 k5 HB P8 r8 g7
          generalize w7.setCell ⟨gb, 5, none⟩ (.int .i64 d) = W9 at *
          have B9 := P9.1
          have p0 := (B9.cell 0).trans (show _ = some (.int .i64 k) from rfl)
          have p1 := (B9.cell 1).trans (show _ = some (.string nm) from rfl)
          have p2 := (B9.cell 2).trans (show _ = some (.int .i64 0) from rfl)
          have p3 := (B9.cell 3).trans (show _ = some (.string ⟨#[]⟩) from rfl)
          have p4 := (B9.cell 4).trans (show _ = some (.int .i64 v) from rfl)
          have p5 := (B9.cell 5).trans (show _ = some (.int .i64 d) from rfl)
          have hownW := P9.2.1.2.2.1
          have hbW := P9.2.2.1
          have rW := r9
          clear r9 B9
          have hWs := hbW.size
          go_wp2_with (first
            | (at_builtin
               refine wpList_append_any _ rfl (.tmp 50) (.tmp 52) _ rfl (w.heap.size + 1) 40 i0 _ 6 64 Try.underlying22 hi0 hz0 hz1 hz2 rfl (by omega) _ _ _ rfl
                 (hownW.alloc _) _ _ 1 _ _ rfl (reads_pf W9 (⟨k, nm, 0, ByteArray.empty, v, d⟩ : Sp) _ _ rfl) (pfs_one _) (by unfold maxLen; omega) (by omega) (by simp; omega) ?_
               intro v9 w9 hown9 hg9 hat9
               have hlo := fun kb hkb => ((hownW.alloc (.cells #[.int .i64 ((⟨k, nm, 0, ByteArray.empty, v, d⟩ : Sp)).kind, .string ((⟨k, nm, 0, ByteArray.empty, v, d⟩ : Sp)).name, .int .i64 ((⟨k, nm, 0, ByteArray.empty, v, d⟩ : Sp)).ver, .string ((⟨k, nm, 0, ByteArray.empty, v, d⟩ : Sp)).dest, .int .i64 ((⟨k, nm, 0, ByteArray.empty, v, d⟩ : Sp)).a, .int .i64 ((⟨k, nm, 0, ByteArray.empty, v, d⟩ : Sp)).b] 40)).lt kb hkb).1
               have hb9 : Below w.heap.size w w9 := (hbW.alloc hbW.size _).grown hg9 (by have := hbW.size; simp; omega) (fun k hk => by have := hlo k hk; omega)
               have r9 : RdD w9 w.heap.size t2 := (rW.alloc _).grown hg9 (fun e => by have := hlo _ e.symm; omega)
               rw [← pfs_append] at hown9
               obtain ⟨A9, c9, rfl, hN9⟩ := newPf_of_own hown9))
          go_roundw
          case rel => exact ⟨i + 1, A9, c9, by omega, rfl, by go_num, by rw [Hst.out]; exact hN9, by rw [Hst.out]; exact r9, hb9⟩
          case measure => simp [RowKit.intOf]; omega
        · have hk41 : (k == 4) = false := beq_eq_false_iff_ne.2 hk4
          rw [Hk.out, if_neg hk3, if_neg hk4] at Hst
          simp only at Hst
          clear hk3 hk4 Hk HN HS
          have p0 := (B0.cell 0).trans (show _ = some (.int .i64 k) from rfl)
          have p1 := (B0.cell 1).trans (show _ = some (.string nm) from rfl)
          have p2 := (B0.cell 2).trans (show _ = some (.int .i64 0) from rfl)
          have p3 := (B0.cell 3).trans (show _ = some (.string ⟨#[]⟩) from rfl)
          have p4 := (B0.cell 4).trans (show _ = some (.int .i64 0) from rfl)
          have p5 := (B0.cell 5).trans (show _ = some (.int .i64 0) from rfl)
          have hownW := P0.2.1.2.2.1
          have hbW := P0.2.2.1
          have rW := r0
          clear B0
          have hWs := hbW.size
          go_wp2_with (first
            | (at_builtin
               refine wpList_append_any _ rfl (.tmp 50) (.tmp 52) _ rfl (w.heap.size + 1) 40 i0 _ 6 64 Try.underlying22 hi0 hz0 hz1 hz2 rfl (by omega) _ _ _ rfl
                 (hownW.alloc _) _ _ 1 _ _ rfl (reads_pf W0 (⟨k, nm, 0, ByteArray.empty, 0, 0⟩ : Sp) _ _ rfl) (pfs_one _) (by unfold maxLen; omega) (by omega) (by simp; omega) ?_
               intro v9 w9 hown9 hg9 hat9
               have hlo := fun kb hkb => ((hownW.alloc (.cells #[.int .i64 ((⟨k, nm, 0, ByteArray.empty, 0, 0⟩ : Sp)).kind, .string ((⟨k, nm, 0, ByteArray.empty, 0, 0⟩ : Sp)).name, .int .i64 ((⟨k, nm, 0, ByteArray.empty, 0, 0⟩ : Sp)).ver, .string ((⟨k, nm, 0, ByteArray.empty, 0, 0⟩ : Sp)).dest, .int .i64 ((⟨k, nm, 0, ByteArray.empty, 0, 0⟩ : Sp)).a, .int .i64 ((⟨k, nm, 0, ByteArray.empty, 0, 0⟩ : Sp)).b] 40)).lt kb hkb).1
               have hb9 : Below w.heap.size w w9 := (hbW.alloc hbW.size _).grown hg9 (by have := hbW.size; simp; omega) (fun k hk => by have := hlo k hk; omega)
               have r9 : RdD w9 w.heap.size t := (rW.alloc _).grown hg9 (fun e => by have := hlo _ e.symm; omega)
               rw [← pfs_append] at hown9
               obtain ⟨A9, c9, rfl, hN9⟩ := newPf_of_own hown9))
          go_roundw
          case rel => exact ⟨i + 1, A9, c9, by omega, rfl, by go_num, by rw [Hst.out]; exact hN9, by rw [Hst.out]; exact r9, hb9⟩
          case measure => simp [RowKit.intOf]; omega
    · obtain ⟨u1, u2⟩ := Hsi.out (by
        by_cases h : i = N
        · exact .inl h
        · exact .inr (fun e => hgo ⟨by omega, e⟩))
      have HM := hide (refCheckPf_any (listS stepS i s1).1 A i c wr hNw.2.2.2 (fun q hq => by have := Hfi.out q hq; unfold FineS at this; omega) (by omega))
      have hcase : (¬ (i : Int) < (N : Int)) ∨ ((i : Int) < (N : Int) ∧ ((listS stepS i s1).2.2 == 0) = false) := by
        by_cases h : i < N
        · exact .inr ⟨by omega, beq_eq_false_iff_ne.2 fun e => hgo ⟨h, e⟩⟩
        · exact .inl (by omega)
      have hPL := hNw.2.2.2
      have hci := hNw.2.1
      have U1 := hide u1
      have U2 := hide u2
      clear u1 u2 Hst Hsi Hfi HN HS HC Hstop Hfine Hlen hgo hNw Hli
      generalize (listS stepS i s1).1 = L at *
      generalize (listS stepS i s1).2 = ss at *
      generalize hss : closedM ss.1 ss.2 = e0 at *
      clear hss hR hRb
      generalize ss.2 = ser at *
      rcases hcase with hx | ⟨hx, hy⟩
      all_goals
        by_cases he : e0 = 0
        · subst he
          cases hok : okPf L with
          | false =>
            rw [hok] at HM
            have E1 : Hid (eb = 3) := hide (by rw [U1.out, hok]; simp)
            have E2 : Hid (rb = []) := hide (by rw [U2.out, E1.out]; simp)
            clear U1 U2 hok
            go_wp2_with (first
              | (go_at_call 39
                 refine HCi.out.mono ?_
                 rintro e w5 ⟨rfl, rfl⟩)
              | (go_at_call 9
                 refine HM.out.mono ?_
                 rintro e w6 ⟨rfl, hb6⟩))
            go_ret2
            exact ⟨none, 0, 0, by rw [E1.out]; rfl, Nat.le_refl _, by rw [E2.out]; exact PfIn.nil _ _ _, hb.trans (hb6.mono hbs)⟩
          | true =>
            rw [hok] at HM
            have E1 : Hid (eb = 0) := hide (by rw [U1.out, hok]; simp)
            have E2 : Hid (rb = L) := hide (by rw [U2.out, E1.out]; simp)
            clear U1 U2 hok
            go_wp2_with (first
              | (go_at_call 39
                 refine HCi.out.mono ?_
                 rintro e w5 ⟨rfl, rfl⟩)
              | (go_at_call 9
                 refine HM.out.mono ?_
                 rintro e w6 ⟨rfl, hb6⟩))
            go_ret2
            exact ⟨A, i, c, by rw [E1.out]; rfl, hci, by rw [E2.out]; exact hPL.on hb6, hb.trans (hb6.mono hbs)⟩
        · have E1 : Hid (eb = e0) := hide (by rw [U1.out, if_pos he])
          have E2 : Hid (rb = []) := hide (by rw [U2.out, E1.out, if_neg he])
          have hb1 : (e0 == 0) = false := beq_eq_false_iff_ne.2 he
          have hb2 : (e0 != 0) = true := bne_iff_ne.2 he
          clear U1 U2 he
          go_wp2_with (first
            | (go_at_call 39
               refine HCi.out.mono ?_
               rintro e w5 ⟨rfl, rfl⟩))
          go_ret2
          exact ⟨none, 0, 0, by rw [E1.out]; rfl, Nat.le_refl _, by rw [E2.out]; exact PfIn.nil _ _ _, hb⟩
end Go.Proofs.Ytdggnakjfcmnmaa.Proof
