/-
  Some texts of this claim, one behind the other: PickCells, PickRef, PickSame. What each proves, and its condition, stands at its head.
-/
import Derived.Test.YtllogmokadcfmaaGreatZB8
import Derived.Test.YtllogmokadcfmaaGreatZB1
import Derived.Test.YtllogmokadcfmaaGreatZB2
import Derived.Test.YtllogmokadcfmaaGreatChecked
import Derived.Laws.Cover1
/-
  Slices of picks in memory: what came in with a call, and new ones of the call's own. No condition.
-/
namespace Go.Proofs.YtllogmokadcfmaaGreat.Pick
open Go Go.RowKit Go.Lib
set_option linter.unusedVariables false
theorem info_pick : (Tryz.prog.info? 78).map (fun i => (i.zero, i.size, i.bytes)) = some (some (.agg #[.string ByteArray.empty, .int .i64 0]), 2, 24) := by kernel_rfl
theorem alloc_b (w : World) (o : Obj) : Below w.heap.size w (w.alloc o) := (Below.refl _ _).alloc (Nat.le_refl _) o
def pks : List Pk → List Value
  | [] => []
  | s :: t => .string s.1 :: .int .i64 s.2 :: pks t
theorem pks_length (l : List Pk) : (pks l).length = l.length * 2 := by
  induction l with
  | nil => rfl
  | cons s t ih => simp [pks, ih]; omega
theorem pks_append (l m : List Pk) : pks (l ++ m) = pks l ++ pks m := by
  induction l with
  | nil => rfl
  | cons s t ih => simp [pks, ih]
theorem pks_one (l : List Pk) : ∀ u ∈ pks l, u.oneCell' = true := by
  induction l with
  | nil => intro u hu; cases hu
  | cons s t ih =>
    intro u hu
    simp only [pks, List.mem_cons] at hu
    rcases hu with rfl | rfl | hu
    · rfl
    · rfl
    · exact ih u hu
theorem pks_get (l : List Pk) : ∀ (i : Nat) (s : Pk), l[i]? = some s → (pks l)[i * 2]? = some (.string s.1) ∧ (pks l)[i * 2 + 1]? = some (.int .i64 s.2) := by
  induction l with
  | nil => intro i s h; simp at h
  | cons x t ih =>
    intro i s h
    cases i with
    | zero => simp at h; subst h; exact ⟨rfl, rfl⟩
    | succ i =>
      rw [List.getElem?_cons_succ] at h
      have := ih i s h
      rw [show (i + 1) * 2 = i * 2 + 1 + 1 by omega, show i * 2 + 1 + 1 + 1 = (i * 2 + 1) + 1 + 1 by omega]
      exact this
theorem pks_take (l : List Pk) : ∀ k : Nat, (pks l).take (k * 2) = pks (l.take k) := by
  induction l with
  | nil => intro k; simp [pks]
  | cons x t ih =>
    intro k
    cases k with
    | zero => simp [pks]
    | succ k =>
      rw [show (k + 1) * 2 = k * 2 + 1 + 1 by omega]
      simp only [pks, List.take_succ_cons, ih]
theorem add_field (ad : Addr) (k : Nat) : ad.add (k + 1) = ⟨(ad.add k).block, (ad.add k).off + 1, none⟩ := by
  unfold Addr.add
  by_cases h : k = 0 <;> simp [h, Nat.add_assoc]
def PkIn (w : World) (B : Nat) (A : Option Addr) (n : Nat) (l : List Pk) : Prop := Reads w B 2 A n (pks l)
section
variable {w w' : World} {B B' n k : Nat} {A : Option Addr} {l : List Pk}
theorem PkIn.len (h : PkIn w B A n l) : l.length = n := by
  have := h.1
  rw [pks_length] at this
  omega
theorem PkIn.at_ (h : PkIn w B A n l) (hk : k < n) :
    ∃ ad s, A = some ad ∧ ad.block < B ∧ l[k]? = some s ∧ w.cell? (ad.add (k * 2)) = some (.string s.1) ∧ w.cell? ⟨(ad.add (k * 2)).block, (ad.add (k * 2)).off + 1, none⟩ = some (.int .i64 s.2) := by
  have hl := h.len
  obtain ⟨ad, hA, hb, hc⟩ := h.2 (by omega)
  obtain ⟨g1, g2⟩ := pks_get l k (l[k]'(by omega)) (by simp)
  refine ⟨ad, l[k]'(by omega), hA, hb, by simp, hc _ _ g1, ?_⟩
  rw [← add_field]
  exact hc _ _ g2
theorem PkIn.below (h : PkIn w B A n l) (hb : Below B w w') : PkIn w' B A n l := Reads.below h hb
theorem PkIn.more (h : PkIn w B A n l) (hb : B ≤ B') : PkIn w B' A n l := Reads.more h hb
theorem PkIn.nil (w : World) (B : Nat) (A : Option Addr) : PkIn w B A 0 [] := ⟨rfl, fun h => absurd h (by omega)⟩
theorem PkIn.take (h : PkIn w B A n l) (hk : k ≤ n) : PkIn w B A k (l.take k) := by
  have hl := h.len
  refine ⟨by rw [pks_length, List.length_take]; omega, fun hn => ?_⟩
  obtain ⟨ad, hA, hb, hc⟩ := h.2 (by omega)
  refine ⟨ad, hA, hb, fun j u hu => ?_⟩
  rw [← pks_take, List.getElem?_take] at hu
  split at hu
  · exact hc j u hu
  · cases hu
end
def PkOn (w : World) (A : Option Addr) (n : Nat) (l : List Pk) : Prop := PkIn w w.heap.size A n l
theorem PkOn.on {w w' : World} {A : Option Addr} {n : Nat} {l : List Pk} (h : PkOn w A n l) (hb : Below w.heap.size w w') : PkOn w' A n l := (PkIn.below h hb).more hb.size
theorem PkOn.len {w : World} {A : Option Addr} {n : Nat} {l : List Pk} (h : PkOn w A n l) : l.length = n := PkIn.len h
def NewP (w : World) (B : Nat) (A : Option Addr) (n c : Nat) (l : List Pk) : Prop :=
  n = l.length ∧ n ≤ c ∧ w.ownsRow B 78 2 (.slice A n c) n (pks l) ∧ PkOn w A n l
theorem newP_of_own {w : World} {B n : Nat} {v : Value} {l : List Pk} (h : w.ownsRow B 78 2 v n (pks l)) : ∃ A c, v = .slice A n c ∧ NewP w B A n c l := by
  obtain ⟨A, c, rfl, hc, hm, hr⟩ := own_form h
  have hn : n = l.length := by have := h.1; rw [pks_length] at this; omega
  exact ⟨A, c, rfl, hn, hc, h, hr⟩
theorem NewP.nil_ (w : World) (B : Nat) : NewP w B none 0 0 [] := ⟨rfl, Nat.le_refl _, World.ownsRow_nil w B _ 2, PkIn.nil _ _ _⟩
theorem NewP.below {w w' : World} {B : Nat} {A : Option Addr} {n c : Nat} {l : List Pk} (h : NewP w B A n c l) (hb : Below w.heap.size w w') : NewP w' B A n c l :=
  ⟨h.1, h.2.1, own_below h.2.2.1 hb, h.2.2.2.on hb⟩
theorem NewP.less {w : World} {B B' : Nat} {A : Option Addr} {n c : Nat} {l : List Pk} (h : NewP w B A n c l) (hB : B' ≤ B) : NewP w B' A n c l :=
  ⟨h.1, h.2.1, own_less h.2.2.1 hB, h.2.2.2⟩
theorem reads_pick (w : World) (nm : ByteArray) (v : Int) (g : Nat) (hg : g = w.heap.size) : Reads (w.alloc (.cells #[.string nm, .int .i64 v] 78)) (g + 1) 2 (some ⟨g, 0, none⟩) 1 (pks [(nm, v)]) := by
  subst hg
  have h := Reads.newL w 78 #[.string nm, .int .i64 v]
  exact ⟨rfl, fun _ => h.2 (by simp)⟩
def MakesP (w : World) (L : List Pk) (e : Ending) (w' : World) : Prop := ∃ A n c, e = .returned (.slice A n c) ∧ NewP w' 0 A n c L ∧ Below w.heap.size w w'
end Go.Proofs.YtllogmokadcfmaaGreat.Pick
/-
  Contracts of the document's Get, Drop and Put. Condition: no more than 1,000,000 picks.
-/
namespace Go.Proofs.YtllogmokadcfmaaGreat.Pick
open Go Go.RowKit Go.Lib Go.Proofs.YtllogmokadcfmaaGreat.Need
set_option linter.unusedVariables false
set_option maxHeartbeats 4000000 in
set_option maxRecDepth 100000 in
theorem refDropP_any (l : List Pk) (nm : ByteArray) (A : Option Addr) (n c : Nat) (w : World) (h : PkOn w A n l) (hn : n ≤ 1000000) :
    Calls Tryz.prog 101 #[.slice A n c, .string nm] w (MakesP w (dropP l nm)) := by
  obtain ⟨i0, hi0, hz0, hz1, hz2⟩ := info_parts info_pick
  unfold MakesP
  have hlen := hide h.len
  have Hd := hide (fun i q => @dropP_take l nm i q)
  have Hn : Hid (dropP (l.take 0) nm = []) := hide rfl
  have Hall : Hid (dropP (l.take n) nm = dropP l nm) := hide (by rw [List.take_of_length_le (by have := hlen.out; omega)])
  have Hle := hide (fun i => (show (dropP (l.take i) nm).length ≤ i from Nat.le_trans (List.length_filter_le _ _) (by rw [List.length_take]; omega)))
  generalize dropP l nm = R at *
  go_enter Tryz.func101, Tryz.ntmps101
  go_wp2
  go_loopw [5, 6] (fun u v wr => ∃ (i : Nat) (Ao : Option Addr) (no co : Nat), i ≤ n ∧ u = .slice Ao no co ∧ v = .int .i64 (i : Int) ∧ no ≤ i ∧ NewP wr w.heap.size Ao no co (dropP (l.take i) nm) ∧ Below w.heap.size w wr) (fun _ v _ => n - (RowKit.intOf v).toNat)
  case atStart => exact ⟨0, none, 0, 0, by omega, rfl, rfl, Nat.le_refl _, by rw [Hn.out]; exact NewP.nil_ _ _, Below.refl _ _⟩
  case round =>
    obtain ⟨i, Ao, no, co, hi, rfl, rfl, hno, hN, hb⟩ := hrel
    have hbs := hb.size
    by_cases hlt : i < n
    · obtain ⟨ad, q, rfl, hbl, hx, c1, c2⟩ := PkIn.at_ (PkIn.below h hb) hlt
      have hd := Hd.out i q hx
      have he := eq_names q.1 nm
      obtain ⟨x, v⟩ := q
      simp only [] at c1 c2 hd he
      clear hx
      by_cases hq : x = nm
      · rw [if_pos hq] at hd
        rw [decide_eq_true hq] at he
        rw [← hd] at hN
        clear hd hq h
        go_wp2
        go_roundw
        case rel => exact ⟨i + 1, Ao, no, co, by omega, rfl, by go_num, by omega, hN, hb⟩
        case measure => simp [RowKit.intOf]; omega
      · rw [if_neg hq] at hd
        rw [decide_eq_false hq] at he
        have hd2 := hide hd
        have hown := hN.2.2.1
        clear hd hq h
        go_wp2_with (at_builtin
                     refine wpList_append_any _ rfl (.tmp 20) (.tmp 25) _ rfl w.heap.size 78 i0 _ 2 24 Tryz.underlying47 hi0 hz0 hz1 hz2 rfl (by omega) _ _ _ rfl
                       (own_below hown ?_) _ _ 1 _ _ rfl (reads_pick _ x v _ (by simp)) (pks_one _) (by unfold maxLen; omega) (by omega) (by simp; omega) ?_
                     · exact (Below.refl _ _).alloc (Nat.le_refl _) _
                     intro v2 w2 hown2 hg2 hat2
                     have hb2 : Below w.heap.size w w2 := (hb.alloc hb.size _).grown hg2 (by simp; omega) (fun k hk => (hown.lt k hk).1)
                     have hs2 := hb2.size
                     rw [← pks_append, ← hd2.out] at hown2
                     obtain ⟨A2, c2', rfl, hN2⟩ := newP_of_own hown2)
        go_roundw
        case rel => exact ⟨i + 1, A2, no + 1, c2', by omega, rfl, by go_num, by omega, hN2, hb2⟩
        case measure => simp [RowKit.intOf]; omega
    · have hi2 : i = n := by omega
      subst hi2
      rw [Hall.out] at hN
      go_wp2
      go_ret
      exact ⟨Ao, no, co, rfl, hN.less (Nat.zero_le _), hb⟩
theorem ins_end (p : Pk) (b : Bool) {d : List Pk} {i : Nat} (h : d.length ≤ i) : insP p b (d.drop i) = if b = true then [] else [p] := by
  rw [List.drop_of_length_le h]; rfl
theorem ins_past (p : Pk) {d : List Pk} {i : Nat} {x : Pk} (h : d[i]? = some x) : insP p true (d.drop i) = x :: insP p true (d.drop (i + 1)) := by
  obtain ⟨hi, e⟩ := List.getElem?_eq_some_iff.1 h
  rw [List.drop_eq_getElem_cons hi, e, insP, if_neg (by simp)]
theorem ins_at (p : Pk) {d : List Pk} {i : Nat} {x : Pk} (h : d[i]? = some x) (g : nlt p.1 x.1 = true) : insP p false (d.drop i) = p :: x :: insP p true (d.drop (i + 1)) := by
  obtain ⟨hi, e⟩ := List.getElem?_eq_some_iff.1 h
  rw [List.drop_eq_getElem_cons hi, e, insP, if_pos ⟨rfl, g⟩]
theorem ins_ahead (p : Pk) {d : List Pk} {i : Nat} {x : Pk} (h : d[i]? = some x) (g : nlt p.1 x.1 = false) : insP p false (d.drop i) = x :: insP p false (d.drop (i + 1)) := by
  obtain ⟨hi, e⟩ := List.getElem?_eq_some_iff.1 h
  rw [List.drop_eq_getElem_cons hi, e, insP, if_neg (by rw [g]; simp)]
set_option maxHeartbeats 8000000 in
set_option maxRecDepth 100000 in
theorem refPutP_any (l : List Pk) (pn : ByteArray) (pv : Int) (A : Option Addr) (n c : Nat) (w : World) (h : PkOn w A n l) (hn : n ≤ 1000000) :
    Calls Tryz.prog 77 #[.slice A n c, .agg #[.string pn, .int .i64 pv]] w (MakesP w (putP l (pn, pv))) := by
  obtain ⟨i0, hi0, hz0, hz1, hz2⟩ := info_parts info_pick
  unfold MakesP
  have hlen := h.len
  have hdl : (dropP l pn).length ≤ 1000000 := Nat.le_trans (List.length_filter_le _ _) (by omega)
  have HD := hide (fun wx (hbx : Below w.heap.size w wx) => refDropP_any l pn A n c wx (h.on hbx) hn)
  obtain ⟨R, hR⟩ : ∃ R, R = putP l (pn, pv) := ⟨_, rfl⟩
  rw [← hR]
  have HR : Hid (R = insP (pn, pv) false (dropP l pn)) := hide hR
  clear hR hlen h
  generalize dropP l pn = d at *
  go_enter Tryz.func77, Tryz.ntmps77
  go_upto_region 2 with (first
    | (go_at_call 101
       refine (HD.out _ (alloc_b w (.cells #[.string pn, .int .i64 pv] 78))).mono ?_
       rintro e w1 ⟨Ad, nd, cd, rfl, hNd, hb1⟩))
  have hbk : Below w.heap.size w w1 := (alloc_b w (.cells #[.string pn, .int .i64 pv] 78)).trans (hb1.mono (by simp))
  have hblk : Blk w1 w.heap.size 78 #[.string pn, .int .i64 pv] := (Blk.new w 78 #[.string pn, .int .i64 pv]).below hb1 (by simp)
  have hdn : d.length = nd := hNd.1.symm
  have hdn2 : nd ≤ 1000000 := by omega
  have Hdn := hide hdn
  have hRd := hNd.2.2.2
  have hg0 := hblk.lt
  clear hdn hdl hNd HD
  generalize w.heap.size = g0 at hblk hg0 ⊢
  go_wp2
  go_loopw [5, 6, 7] (fun u v x wr => ∃ (i : Nat) (b : Bool) (Ao : Option Addr) (no co : Nat) (out : List Pk), i ≤ nd ∧ u = .slice Ao no co ∧ v = .bool b ∧ x = .int .i64 (i : Int) ∧ (no ≤ i ∨ (b = true ∧ no ≤ i + 1)) ∧
    NewP wr w1.heap.size Ao no co out ∧ Hid (R = out ++ insP (pn, pv) b (d.drop i)) ∧ Below w1.heap.size w1 wr) (fun _ _ x _ => nd - (RowKit.intOf x).toNat)
  case atStart => exact ⟨0, false, none, 0, 0, [], by omega, rfl, rfl, rfl, .inl (Nat.le_refl _), NewP.nil_ _ _, hide (by rw [HR.out]; rfl), Below.refl _ _⟩
  case round =>
    obtain ⟨i, b, Ao, no, co, out, hi, rfl, rfl, rfl, hno, hN, hf, hb⟩ := hrel
    have hbs := hb.size
    have hown := hN.2.2.1
    have k0 : wr.cell? ⟨g0, 0, none⟩ = some (.string pn) := ((hblk.below hb hg0).cell 0).trans rfl
    have k1 : wr.cell? ⟨g0, 1, none⟩ = some (.int .i64 pv) := ((hblk.below hb hg0).cell 1).trans rfl
    have hno2 : no ≤ 1000001 := by rcases hno with h | h <;> omega
    by_cases hlt : i < nd
    · obtain ⟨ad, q, rfl, hbl, hx, d1, d2⟩ := PkIn.at_ hRd hlt
      have r1 := hide (ins_past (pn, pv) hx)
      have r2 := hide (ins_at (pn, pv) hx)
      have r3 := hide (ins_ahead (pn, pv) hx)
      obtain ⟨x, v⟩ := q
      simp only [] at d1 d2 r1 r2 r3
      have c1 := (hb.cell (p := ad.add (i * 2)) (by rw [block_of_add]; exact hbl)).trans d1
      have c2 := (hb.cell (p := ⟨(ad.add (i * 2)).block, (ad.add (i * 2)).off + 1, none⟩) (by simp only [block_of_add]; exact hbl)).trans d2
      have j1 : (0 : Int) ≤ (i : Int) := by omega
      have j2 : (i : Int) < (nd : Int) := by omega
      clear hx
      cases b with
      | true =>
        have e := hide (hf.out.trans (congrArg (out ++ ·) r1.out))
        clear r1 r2 r3 hf
        go_upto_region 7 with fail
        go_quiet (fail)
        go_wp2_with (at_builtin
                     refine wpList_append_any _ rfl (.tmp 34) (.tmp 39) _ rfl w1.heap.size 78 i0 _ 2 24 Tryz.underlying47 hi0 hz0 hz1 hz2 rfl (by omega) _ _ _ rfl
                       (own_below hown ?_) _ _ 1 _ _ rfl (reads_pick _ x v _ (by simp)) (pks_one _) (by unfold maxLen; omega) (by omega) (by simp; omega) ?_
                     · exact (below_drewN (Below.refl _ _) _).alloc (Nat.le_refl _) _
                     intro v2 w2 hown2 hg2 hat2
                     have hb2 : Below w1.heap.size w1 w2 := ((below_drewN hb _).alloc (by simp; omega) _).grown hg2 (by simp; omega) (fun k hk => (hown.lt k hk).1)
                     rw [← pks_append] at hown2
                     obtain ⟨A2, c2', rfl, hN2⟩ := newP_of_own hown2)
        go_roundw
        case rel => exact ⟨i + 1, true, A2, no + 1, c2', _, by omega, rfl, rfl, by go_num, .inr ⟨rfl, by rcases hno with h | h <;> omega⟩, hN2, hide (by rw [e.out]; simp), hb2⟩
        case measure => simp [RowKit.intOf]; omega
      | false =>
        have hno3 : no ≤ i := by
          rcases hno with h | h
          · exact h
          · cases h.1
        clear hno
        cases g : nlt pn x with
        | true =>
          have f1 : Op.bytesLess pn.toList x.toList = true := g
          have e := hide (hf.out.trans (congrArg (out ++ ·) (r2.out g)))
          clear r1 r2 r3 hf g
          go_upto_region 7 with fail
          go_quiet (fail)
          go_wp2_with (first
            | (at_builtin
               have hdone := hb2
               refine wpList_append_any _ rfl (.tmp 34) (.tmp 39) _ rfl w1.heap.size 78 i0 _ 2 24 Tryz.underlying47 hi0 hz0 hz1 hz2 rfl (by omega) _ _ _ rfl
                 (own_below hown2 ?_) _ _ 1 _ _ rfl (reads_pick _ x v _ (by simp)) (pks_one _) (by unfold maxLen; omega) (by omega) (by simp; omega) ?_
               · exact (Below.refl _ _).alloc (Nat.le_refl _) _
               intro v3 w3 hown3 hg3 hat3
               have hb3 : Below w1.heap.size w1 w3 := (hb2.alloc hb2.size _).grown hg3 (by simp; omega) (fun k hk => (hown2.lt k hk).1)
               rw [← pks_append] at hown3
               obtain ⟨A3, c3', rfl, hN3⟩ := newP_of_own hown3)
            | (at_builtin
               refine wpList_append_any _ rfl (.tmp 30) (.tmp 32) _ rfl w1.heap.size 78 i0 _ 2 24 Tryz.underlying47 hi0 hz0 hz1 hz2 rfl (by omega) _ _ _ rfl
                 (own_below hown ?_) _ _ 1 _ _ rfl (reads_pick _ pn pv _ (by simp)) (pks_one _) (by unfold maxLen; omega) (by omega) (by simp; omega) ?_
               · exact (below_drewN (Below.refl _ _) _).alloc (Nat.le_refl _) _
               intro v2 w2 hown2 hg2 hat2
               have hb2 : Below w1.heap.size w1 w2 := ((below_drewN hb _).alloc (by simp; omega) _).grown hg2 (by simp; omega) (fun k hk => (hown.lt k hk).1)
               rw [← pks_append] at hown2
               obtain ⟨A2, c2', rfl, hN2⟩ := newP_of_own hown2
               have hs2 := hb2.size
               have c3 := (hb2.cell (p := ad.add (i * 2)) (by rw [block_of_add]; exact hbl)).trans d1
               have c4 := (hb2.cell (p := ⟨(ad.add (i * 2)).block, (ad.add (i * 2)).off + 1, none⟩) (by simp only [block_of_add]; exact hbl)).trans d2))
          go_roundw
          case rel => exact ⟨i + 1, true, A3, no + 1 + 1, c3', _, by omega, rfl, rfl, by go_num, .inr ⟨rfl, by omega⟩, hN3, hide (by rw [e.out]; simp), hb3⟩
          case measure => simp [RowKit.intOf]; omega
        | false =>
          have f1 : Op.bytesLess pn.toList x.toList = false := g
          have e := hide (hf.out.trans (congrArg (out ++ ·) (r3.out g)))
          clear r1 r2 r3 hf g
          go_upto_region 7 with fail
          go_quiet (fail)
          go_wp2_with (at_builtin
                       refine wpList_append_any _ rfl (.tmp 34) (.tmp 39) _ rfl w1.heap.size 78 i0 _ 2 24 Tryz.underlying47 hi0 hz0 hz1 hz2 rfl (by omega) _ _ _ rfl
                         (own_below hown ?_) _ _ 1 _ _ rfl (reads_pick _ x v _ (by simp)) (pks_one _) (by unfold maxLen; omega) (by omega) (by simp; omega) ?_
                       · exact (below_drewN (Below.refl _ _) _).alloc (Nat.le_refl _) _
                       intro v2 w2 hown2 hg2 hat2
                       have hb2 : Below w1.heap.size w1 w2 := ((below_drewN hb _).alloc (by simp; omega) _).grown hg2 (by simp; omega) (fun k hk => (hown.lt k hk).1)
                       rw [← pks_append] at hown2
                       obtain ⟨A2, c2', rfl, hN2⟩ := newP_of_own hown2)
          go_roundw
          case rel => exact ⟨i + 1, false, A2, no + 1, c2', _, by omega, rfl, rfl, by go_num, .inl (by omega), hN2, hide (by rw [e.out]; simp), hb2⟩
          case measure => simp [RowKit.intOf]; omega
    · have hz := hide (ins_end (pn, pv) b (d := d) (i := i) (by have := Hdn.out; omega))
      have e := hide (hf.out.trans (congrArg (out ++ ·) hz.out))
      have hi2 : i = nd := by omega
      subst hi2
      clear hf hz
      cases b with
      | true =>
        have e2 : Hid (R = out) := hide (by rw [e.out]; simp)
        clear e
        go_wp2
        go_ret
        refine ⟨Ao, no, co, rfl, ?_, hbk.trans (hb.mono hbk.size)⟩
        rw [e2.out]
        exact hN.less (Nat.zero_le _)
      | false =>
        have e2 : Hid (R = out ++ [(pn, pv)]) := hide (by rw [e.out]; simp)
        clear e
        go_wp2_with (at_builtin
                     refine wpList_append_any _ rfl (.tmp 43) (.tmp 45) _ rfl w1.heap.size 78 i0 _ 2 24 Tryz.underlying47 hi0 hz0 hz1 hz2 rfl (by omega) _ _ _ rfl
                       (own_below hown ?_) _ _ 1 _ _ rfl (reads_pick _ pn pv _ (by simp)) (pks_one _) (by unfold maxLen; omega) (by omega) (by simp; omega) ?_
                     · exact (Below.refl _ _).alloc (Nat.le_refl _) _
                     intro v2 w2 hown2 hg2 hat2
                     have hb2 : Below w1.heap.size w1 w2 := (hb.alloc hb.size _).grown hg2 (by simp; omega) (fun k hk => (hown.lt k hk).1)
                     rw [← pks_append] at hown2
                     obtain ⟨A2, c2', rfl, hN2⟩ := newP_of_own hown2)
        go_ret
        refine ⟨A2, _, c2', rfl, ?_, hbk.trans (hb2.mono hbk.size)⟩
        rw [e2.out]
        exact hN2.less (Nat.zero_le _)
end Go.Proofs.YtllogmokadcfmaaGreat.Pick
/-
  Contracts of Same, the program's (over the library's Equal) and the document's: whether two lists are alike. Condition: the slices read as picks.
-/
namespace Go.Proofs.YtllogmokadcfmaaGreat.Pick
open Go Go.RowKit Go.Lib Go.Proofs.YtllogmokadcfmaaGreat.Need
set_option linter.unusedVariables false
def sameP (a : ByteArray) (b : Int) (c : ByteArray) (d : Int) : Bool := (a.toList == c.toList) && (b == d)
set_option maxRecDepth 100000 in
theorem eq_pick (a : ByteArray) (b : Int) (c : ByteArray) (d : Int) (w : World) : (Op.equalIn 10000 78 (.agg #[.string a, .int .i64 b]) (.agg #[.string c, .int .i64 d])).run Tryz.prog w = .ok (sameP a b c d) w := by
  have hf : Tryz.prog.underlying 78 = some (.struct (Tryz.prog.fieldsOf 78)) := by kernel_rfl
  have hs : Tryz.prog.stoodInHeld 78 = false := by kernel_rfl
  have hl := hf.symm.trans Tryz.underlying78
  injection hl with hl
  injection hl with hl
  have ha : ∀ w, (isAgg 3).run Tryz.prog w = .ok false w := Tryz.isAgg3
  rw [run_equalIn_struct w 9999 _ _ _ hf hs, hl]
  unfold sameP
  have ha2 : ∀ w, (isAgg 9).run Tryz.prog w = .ok false w := Tryz.isAgg9
  cases hx : (a.toList == c.toList) <;> cases hy : (b == d) <;>
    simp [Op.eqFields, part, ha, ha2, run_equalIn_string _ 9998 9 _ _ Tryz.underlying9, run_equalIn_int _ 9998 3 .i64 .i64 _ _ Tryz.underlying3, hx, hy]
theorem samep_iff (s t : Pk) : sameP s.1 s.2 t.1 t.2 = decide (s = t) := by
  unfold sameP
  rw [eq_names, Bool.eq_iff_iff]
  simp [Prod.ext_iff]
theorem samep_snoc {l m : List Pk} {i : Nat} {s t : Pk} (h : l.take i = m.take i) (h1 : l[i]? = some s) (h2 : m[i]? = some t) (h3 : s = t) : l.take (i + 1) = m.take (i + 1) := by
  rw [List.take_add_one, List.take_add_one, h, h1, h2, h3]
theorem samep_ne {l m : List Pk} {i : Nat} {s t : Pk} (h1 : l[i]? = some s) (h2 : m[i]? = some t) (h3 : ¬ s = t) : decide (l = m) = false := by
  refine decide_eq_false fun e => ?_
  subst e
  rw [h1] at h2
  injection h2 with h2
  exact h3 h2
set_option maxHeartbeats 1000000 in
theorem refSameP_any {B n c B' n' c' : Nat} {A A' : Option Addr} {l m : List Pk} (w : World) (h : PkIn w B A n l) (h' : PkIn w B' A' n' m) (hn : n ≤ 1000000001) (hn' : n' ≤ 1000000001) :
    Calls Tryz.prog 50 #[.slice A n c, .slice A' n' c'] w fun e w' => e = .returned (.bool (decide (l = m))) ∧ ∃ k, w' = w.drewN k := by
  have hl : l.length = n := h.len
  have hm : m.length = n' := h'.len
  have heq := eq_pick
  obtain ⟨r, hr⟩ : ∃ r, r = decide (l = m) := ⟨_, rfl⟩
  rw [← hr]
  have Hr := hide hr
  clear hr
  by_cases hnn : n = n'
  · subst hnn
    go_enter Tryz.func50, Tryz.ntmps50
    go_wp2
    go_loopw [5] (fun v wr => ∃ (i : Nat), i ≤ n ∧ v = .int .i64 (i : Int) ∧ Hid (l.take i = m.take i) ∧ ∃ k, wr = w.drewN k) (fun v _ => n - (RowKit.intOf v).toNat)
    case atStart => exact ⟨0, by omega, rfl, hide rfl, 0, rfl⟩
    case round =>
      obtain ⟨i, hi, rfl, hf, k, rfl⟩ := hrel
      by_cases hlt : i < n
      · obtain ⟨ad, s, rfl, hbl, hx, c1, c2⟩ := h.at_ hlt
        obtain ⟨ad', t, rfl, hbl', hx', c1', c2'⟩ := h'.at_ hlt
        have hsn := hide (@samep_snoc l m i s t hf.out hx hx')
        have hne := hide (@samep_ne l m i s t hx hx')
        have hsi := hide (samep_iff s t)
        obtain ⟨x, y⟩ := s
        obtain ⟨x', y'⟩ := t
        simp only [] at hsn hne hsi c1 c2 c1' c2'
        clear hx hx' hf
        have hq := heq x y x' y'
        clear heq
        generalize hb : sameP x y x' y' = b at *
        clear hb
        go_upto_region 6 with fail
        go_quiet (fail)
        cases b
        · go_wp2_with fail
          go_ret
          have e := hne.out (by intro e; have := hsi.out; rw [e] at this; simp at this)
          have e2 : r = false := by rw [Hr.out]; exact e
          exact ⟨by rw [e2]; rfl, _, World.drewN_drewN _ _ _⟩
        · go_wp2_with fail
          have e := hsn.out (by have := hsi.out; simpa using this)
          go_roundw
          case rel => exact ⟨i + 1, by omega, by go_num, e, _, rfl⟩
          case measure => simp [RowKit.intOf]; omega
      · have hi2 : i = n := by omega
        subst hi2
        have hq := hf.out
        rw [List.take_of_length_le (by omega), List.take_of_length_le (by omega)] at hq
        have e2 : r = true := by rw [Hr.out]; exact decide_eq_true hq
        have E2 := hide e2
        clear hf hq e2
        go_wp2
        go_ret
        exact ⟨by rw [E2.out]; rfl, _, rfl⟩
  · have e2 : r = false := by rw [Hr.out]; exact decide_eq_false fun e => hnn (by rw [← hl, ← hm, e])
    have E2 := hide e2
    clear e2
    go_enter Tryz.func50, Tryz.ntmps50
    go_wp2
    go_ret
    exact ⟨by rw [E2.out]; rfl, 0, rfl⟩
end Go.Proofs.YtllogmokadcfmaaGreat.Pick
