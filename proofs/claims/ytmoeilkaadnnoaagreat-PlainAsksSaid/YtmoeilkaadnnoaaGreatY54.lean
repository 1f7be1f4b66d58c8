/-
  Some texts of this claim, one behind the other: PlainNext. What each proves, and its condition, stands at its head.
-/
import Derived.Test.YtmoeilkaadnnoaaGreatY48
import Derived.Test.YtmoeilkaadnnoaaGreatY50
import Derived.Test.YtmoeilkaadnnoaaGreatY37
import Derived.Test.YtmoeilkaadnnoaaGreatY19
import Derived.Test.YtmoeilkaadnnoaaGreatY11
import Derived.Deep.RegionHeld3
/-
  The contract of the program's Next: the least name that is needed and not picked, over the rounds of needed. Condition: what is known is looked at; at most 60 picks, whose names rise.
-/
namespace Go.Proofs.YtmoeilkaadnnoaaGreat.Plain
open Go Go.RowKit Go.Lib Go.Sort Go.Proofs.YtmoeilkaadnnoaaGreat.Span Go.Proofs.YtmoeilkaadnnoaaGreat.Need Go.Proofs.YtmoeilkaadnnoaaGreat.Mani Go.Proofs.YtmoeilkaadnnoaaGreat.Wire Go.Proofs.YtmoeilkaadnnoaaGreat.Depot Go.Proofs.YtmoeilkaadnnoaaGreat.Index Go.Proofs.YtmoeilkaadnnoaaGreat.Reach Go.Proofs.YtmoeilkaadnnoaaGreat.Pick Go.Proofs.YtmoeilkaadnnoaaGreat.Fit
set_option linter.unusedVariables false
attribute [local go_sem] Oper.semAt_some
theorem fold_next {f : ByteArray → Bool} {N : List Nd} {i : Nat} {q : Nd} {o : Option ByteArray} (h : N[i]? = some q) : (namesS (N.drop i)).foldl (lessO f) o = (namesS (N.drop (i + 1))).foldl (lessO f) (lessO f o q.1) := by
  obtain ⟨hi, e⟩ := List.getElem?_eq_some_iff.1 h
  rw [List.drop_eq_getElem_cons hi, e]
  rfl
section
variable (X : List Kn) (root : List Nd) (l : List Pk)
def nextK : Nat → Option ByteArray
  | 0 => none
  | k + 1 => leastF X (fun a => (getP l a).isNone) ((namesS root).foldl (lessO fun a => (getP l a).isNone) none) (l.take k)
theorem nextK_next {k : Nat} (hk : k < l.length + 1) : nextK X root l (k + 1) = (namesS (LsX X root l k)).foldl (lessO fun a => (getP l a).isNone) (nextK X root l k) := by
  cases k with
  | zero => rfl
  | succ j =>
    have hj : j < l.length := by omega
    have h : l[j]? = some l[j] := List.getElem?_eq_getElem hj
    have e : LsX X root l (j + 1) = needsX X l[j].1 l[j].2 := by
      show (match l[j]? with | some p => needsX X p.1 p.2 | none => []) = _
      rw [h]
    rw [e]
    show leastF X _ _ (l.take (j + 1)) = (namesS _).foldl _ (leastF X _ _ (l.take j))
    unfold leastF
    rw [take_snoc' l j _ h, List.foldl_append]
    rfl
theorem nextK_all : nextK X root l (l.length + 1) = nextX X root l := by
  show leastF X _ _ (l.take l.length) = _
  rw [List.take_of_length_le (Nat.le_refl _), next_is]
end
def KK (B n0 : Nat) (bs : List Nat) (W W' : World) : Prop := KeepsFrom B W W' ∧ KpN n0 bs W W'
section
variable {B n0 : Nat} {bs : List Nat} {W W1 W2 : World}
theorem KK.refl (hW : n0 ≤ W.heap.size) : KK B n0 bs W W := ⟨keeps_below (Below.refl _ _), (Below.refl _ _).mono hW, fun k _ T u hu => hu⟩
theorem KK.step (h : KK B n0 bs W W1) (hW : n0 ≤ W1.heap.size) (hb : Below W1.heap.size W1 W2) : KK B n0 bs W W2 :=
  ⟨h.1.trans (keeps_below hb), kpN_t h.2 ⟨hb.mono hW, fun k _ T u hu => (hb.block _ hu.lt).trans hu⟩⟩
theorem KK.set (h : KK B n0 bs W W1) {b : Nat} (hb : n0 ≤ b) (hn : b ∉ bs) (v : Value) : KK B n0 bs W (W1.setCell ⟨b, 0, none⟩ v) :=
  ⟨h.1.trans ((KeepsOthers.setCell _ _ _).from _), kpN_t h.2 ⟨(Below.refl _ _).setCell (p := ⟨b, 0, none⟩) hb v, fun k hk T u hu => Boxed.other hu (fun e => hn (by rw [← e]; exact hk)) _⟩⟩
end
set_option maxHeartbeats 8000000 in
set_option maxRecDepth 100000 in
theorem nextP_any (X : List Kn) (root : List Nd) (l : List Pk) (o : Option Addr) (Ar : Option Addr) (nr cr : Nat) (Al : Option Addr) (nl cl : Nat) (w : World)
    (hX : TellsX w (.pointer o) X) (hf : FineX X) (hs : SetX X) (hr : NdOn w Ar nr root) (hok : okS root = true) (hrn : ∀ q ∈ root, q.1.size ≤ 100) (hp : PkOn w Al nl l) (hnl : nl ≤ 100) (hpq : ∀ q ∈ l, q.1.size ≤ 200) (hris : RisesP l) :
    Calls Tryz.prog 16 #[.pointer o, .slice Ar nr cr, .slice Al nl cl] w (Tells w (.tuple #[.string ((nextX X root l).getD ByteArray.empty), .bool (nextX X root l).isSome])) := by
  unfold Tells
  have hall : nextK X root l (nl + 1) = nextX X root l := by rw [← hp.len]; exact nextK_all X root l
  have Hnx := hide (fun (k : Nat) (hk : k < nl + 1) => nextK_next X root l (k := k) (by rw [hp.len]; exact hk))
  have Hls := hide (fun (k : Nat) => lsX_ok l ByteArray.empty hf hs hok hrn k)
  have hsz : ((nextX X root l).getD ByteArray.empty).size ≤ 1000000000 := by
    cases e : nextX X root l with
    | none => simp
    | some a =>
      show a.size ≤ _
      rcases (next_some e).1 with h | ⟨p, _, h⟩
      · obtain ⟨q, hq, rfl⟩ := List.mem_map.1 h
        have := hrn q hq
        omega
      · obtain ⟨q, hq, rfl⟩ := List.mem_map.1 h
        have := needs_short9 hf hq
        omega
  have HC := hide (fun wx => Label.clone_any ((nextX X root l).getD ByteArray.empty) wx hsz)
  clear hsz
  have HN := hide (fun (wx : World) => needed_any o Ar nr cr Al nl cl wx)
  have HG := hide (fun (nm : ByteArray) (wx : World) (hx : Below w.heap.size w wx) => get_any l nm Al nl cl wx (hp.on hx) hris (by omega))
  refine (callsIn_wide (n := 9)).1 ?_
  refine callsIn_of_wp_marks Tryz.func16 rfl trivial ?_ rfl
  simp only [Tryz.ntmps16, List.size_toArray, List.length_cons, List.length_nil, Nat.reduceAdd, Nat.reduceSub, Array.replicate_succ, Array.replicate_zero, List.push_toArray, List.append_toArray, List.nil_append, List.cons_append]
  gi_wp2_with (refine ⟨trivial, ?_⟩
               gi_at_call 33
               refine (callsIn_wide.2 (HN.out _)).mono ?_
               rintro e w3 ⟨rfl, rfl⟩)
  obtain ⟨W0, hW0⟩ : ∃ W0, W0 = ((((((w.alloc (.cells #[.slice Al nl cl] 27)).alloc (.cells #[.string { data := #[] }] 9)).alloc (.cells #[.bool false] 4)).alloc (.cells #[.pointer o] 30)).alloc (.cells #[.slice Ar nr cr] 23)).alloc (.cells #[.slice Al nl cl] 27)) := ⟨_, rfl⟩
  have hsz0 : W0.heap.size = w.heap.size + 6 := by rw [hW0]; simp
  have hB0 : Below w.heap.size w W0 := by
    rw [hW0]
    exact ((((((Below.refl _ _).alloc (Nat.le_refl _) _).alloc (by simp) _).alloc (by simp; omega) _).alloc (by simp; omega) _).alloc (by simp; omega) _).alloc (by simp; omega) _
  have bP : Boxed W0 w.heap.size 27 (.slice Al nl cl) := by
    rw [hW0]
    exact (((((Boxed.new w 27 (.slice Al nl cl)).alloc _).alloc _).alloc _).alloc _).alloc _
  have bS : Boxed W0 (w.heap.size + 1) 9 (.string { data := #[] }) := by
    rw [hW0]
    have := ((((Boxed.new (w.alloc (.cells #[.slice Al nl cl] 27)) 9 (.string { data := #[] })).alloc (.cells #[.bool false] 4)).alloc (.cells #[.pointer o] 30)).alloc (.cells #[.slice Ar nr cr] 23)).alloc (.cells #[.slice Al nl cl] 27)
    rwa [World.size_alloc] at this
  have bB : Boxed W0 (w.heap.size + 1 + 1) 4 (.bool false) := by
    rw [hW0]
    have := (((Boxed.new ((w.alloc (.cells #[.slice Al nl cl] 27)).alloc (.cells #[.string { data := #[] }] 9)) 4 (.bool false)).alloc (.cells #[.pointer o] 30)).alloc (.cells #[.slice Ar nr cr] 23)).alloc (.cells #[.slice Al nl cl] 27)
    rwa [World.size_alloc, World.size_alloc] at this
  have bX : Boxed W0 (w.heap.size + 1 + 1 + 1) 30 (.pointer o) := by
    rw [hW0]
    have := ((Boxed.new (((w.alloc (.cells #[.slice Al nl cl] 27)).alloc (.cells #[.string { data := #[] }] 9)).alloc (.cells #[.bool false] 4)) 30 (.pointer o)).alloc (.cells #[.slice Ar nr cr] 23)).alloc (.cells #[.slice Al nl cl] 27)
    rwa [World.size_alloc, World.size_alloc, World.size_alloc] at this
  have bR : Boxed W0 (w.heap.size + 1 + 1 + 1 + 1) 23 (.slice Ar nr cr) := by
    rw [hW0]
    have := (Boxed.new ((((w.alloc (.cells #[.slice Al nl cl] 27)).alloc (.cells #[.string { data := #[] }] 9)).alloc (.cells #[.bool false] 4)).alloc (.cells #[.pointer o] 30)) 23 (.slice Ar nr cr)).alloc (.cells #[.slice Al nl cl] 27)
    rwa [World.size_alloc, World.size_alloc, World.size_alloc, World.size_alloc] at this
  have bL : Boxed W0 (w.heap.size + 1 + 1 + 1 + 1 + 1) 27 (.slice Al nl cl) := by
    rw [hW0]
    have := Boxed.new (((((w.alloc (.cells #[.slice Al nl cl] 27)).alloc (.cells #[.string { data := #[] }] 9)).alloc (.cells #[.bool false] 4)).alloc (.cells #[.pointer o] 30)).alloc (.cells #[.slice Ar nr cr] 23)) 27 (.slice Al nl cl)
    rwa [World.size_alloc, World.size_alloc, World.size_alloc, World.size_alloc, World.size_alloc] at this
  rw [← hW0]
  clear hW0 HN
  obtain ⟨bs, hbs⟩ : ∃ bs, bs = [w.heap.size + 1 + 1 + 1, w.heap.size + 1 + 1 + 1 + 1, w.heap.size + 1 + 1 + 1 + 1 + 1] := ⟨_, rfl⟩
  have n1' : w.heap.size + 1 ∉ bs := by rw [hbs]; simp
  have n2' : w.heap.size + 1 + 1 ∉ bs := by rw [hbs]; simp
  have hseq := needed_rounds X root l o Ar nr cr Al nl cl w W0 8 (by omega) _ _ _ hB0 hX hf hr hp (by omega) hpq bX bR bL
  rw [← hbs] at hseq
  clear hbs
  refine range_told (N := nl + 1) (Rd := RdX X root l w) (Kp := KpN w.heap.size bs) rfl (by omega) (gf := 59) (lb := #[.pointer (some ⟨w.heap.size + 1 + 1 + 1 + 1, 0, none⟩), .pointer (some ⟨w.heap.size + 1 + 1 + 1 + 1 + 1, 0, none⟩), .pointer (some ⟨w.heap.size + 1 + 1 + 1, 0, none⟩)]) rfl trivial (enters_of Tryz.func59 (by kernel_rfl) rfl)
    hseq
    (fun k args W h => by obtain ⟨A, n, c, e, _⟩ := h; rw [e]; rfl)
    (rdX_abide _)
    (fun k W => (Blk W (w.heap.size + 1 + 1) 4 #[.bool (nextK X root l k).isSome] ∧ Blk W (w.heap.size + 1) 9 #[.string ((nextK X root l k).getD ByteArray.empty)] ∧ Blk W w.heap.size 27 #[.slice Al nl cl]) ∧ Below w.heap.size w W)
    (fun k W W' row h hg hr => by
      obtain ⟨⟨g1, g2, g3⟩, hB⟩ := h
      exact ⟨⟨g1.grown hg (fun e => by have := (hr _ e.symm).1; omega), g2.grown hg (fun e => by have := (hr _ e.symm).1; omega), g3.grown hg (fun e => by have := (hr _ e.symm).1; omega)⟩, hB.grown hg hB.size (fun r e => by have := (hr r e).1; omega)⟩)
    ⟨⟨bB, bS, bP⟩, hB0⟩
    kpN_t (fun W l o o' hl h h1 => kpN_b W l o o' (by omega) h h1)
    (fun args => { tmps := #[.pointer o, .slice Ar nr cr, .slice Al nl cl, undef, undef, .pointer (some ⟨w.heap.size, 0, none⟩), .string { data := #[] }, .bool false, .pointer (some ⟨w.heap.size + 1, 0, none⟩), .pointer (some ⟨w.heap.size + 1 + 1, 0, none⟩), args.getD 0 undef, undef, undef, undef, undef, .pointer o, .slice Ar nr cr, .slice Al nl cl, .func (.func 59) #[] #[.pointer (some ⟨w.heap.size + 1 + 1 + 1 + 1, 0, none⟩), .pointer (some ⟨w.heap.size + 1 + 1 + 1 + 1 + 1, 0, none⟩), .pointer (some ⟨w.heap.size + 1 + 1 + 1, 0, none⟩)], args.getD 0 undef, undef, undef, undef, undef, undef, undef, undef, undef, undef, undef, undef, undef, undef, undef, undef, undef, undef, undef, undef, undef, undef, undef, undef, undef, undef, undef, undef, undef, undef, undef, undef], defers := [] })
    ?assign ?body ?done
  case assign =>
    rintro lx k args W K ⟨A, n, c, rfl, h⟩ hK
    gi_wp2
    exact hK
  case body =>
    rintro lx k args W ⟨⟨g1, g2, g3⟩, hB⟩ ⟨A, n, c, rfl, hz⟩ hk
    have hN := Hls.out k
    have hst := Hnx.out k hk
    have hzl : (LsX X root l k).length = n := hz.elim (fun h => h.on.len) (fun h => h.len)
    have Hlen := hide hzl
    have hn6 : n ≤ 6 := by have := hN.2.1; omega
    have hWs := hB.size
    clear hN Hnx Hls hall bB bS bP bX bR bL hB0 hX hf hs hr hok hrn hp hpq hseq hris
    generalize nextK X root l (k + 1) = R at *
    generalize nextK X root l k = o0 at *
    generalize LsX X root l k = N at *
    have HR : Hid (R = (namesS (N.drop 0)).foldl (lessO fun a => (getP l a).isNone) o0) := hide hst
    have Hd := hide (fun (i : Nat) (q : Nd) (o : Option ByteArray) (h : N[i]? = some q) => fold_next (f := fun a => (getP l a).isNone) (o := o) h)
    have hkk : KK W0.heap.size w.heap.size bs W W := KK.refl hWs
    clear hst hzl
    gi_wp2
    gi_loopw [22] (fun t wr => ∃ (i : Nat) (o1 : Option ByteArray), i ≤ n ∧ t = .int .i64 (i : Int) ∧ Hid (R = (namesS (N.drop i)).foldl (lessO fun a => (getP l a).isNone) o1) ∧ (InN wr A n N ∨ NdOn w A n N) ∧ Blk wr (w.heap.size + 1 + 1) 4 #[.bool o1.isSome] ∧ Blk wr (w.heap.size + 1) 9 #[.string (o1.getD ByteArray.empty)] ∧ Blk wr w.heap.size 27 #[.slice Al nl cl] ∧ Below w.heap.size w wr ∧ KK W0.heap.size w.heap.size bs W wr) (fun t _ => n - (RowKit.intOf t).toNat)
    case atStart => exact ⟨0, o0, by omega, rfl, HR, hz, g1, g2, g3, hB, hkk⟩
    case round =>
      obtain ⟨i, o1, hi, rfl, hff, hN1, hs1, hm1, hl1, hb, hk1⟩ := hrel
      have hbs := hb.size
      clear HR hz g1 g2 g3 hkk hB
      have e1 : w.heap.size + 1 + 1 ≠ w.heap.size + 1 := by omega
      have e2 : w.heap.size ≠ w.heap.size + 1 + 1 := by omega
      have e3 : w.heap.size ≠ w.heap.size + 1 := by omega
      have l1 : w.heap.size ≤ w.heap.size + 1 + 1 := by omega
      have l2 : w.heap.size ≤ w.heap.size + 1 := by omega
      by_cases hlt : i < n
      · obtain ⟨ad, q, A', n', c', rfl, hbl, hx, hss, c1, c2⟩ := NdIn.at_ (NdIn.more (hN1.elim (fun h => h.on) (fun h => NdOn.on h hb)) (Nat.le_refl _)) hlt
        have hd := hff.out.trans (Hd.out i q o1 hx)
        obtain ⟨x, s⟩ := q
        simp only [] at c1 c2 hd
        have hbd := hb.alloc hbs (.cells #[.string x, .slice A' n' c'] 54)
        have hbds := hbd.size
        have hbr : Below wr.heap.size wr (wr.alloc (.cells #[.string x, .slice A' n' c'] 54)) := (Below.refl _ _).alloc (Nat.le_refl _) _
        have hkA := hk1.step hbs hbr
        have dn := Blk.new wr 54 #[.string x, .slice A' n' c']
        have ds := hs1.alloc (.cells #[.string x, .slice A' n' c'] 54)
        have dm := hm1.alloc (.cells #[.string x, .slice A' n' c'] 54)
        have dl := hl1.alloc (.cells #[.string x, .slice A' n' c'] 54)
        have dN := hN1.imp (fun h => h.below hbr) id
        have kl := (dl.cell 0).trans (show (#[Value.slice Al nl cl] : Array Value)[0]? = some (.slice Al nl cl) from rfl)
        have HGx := hide (fun wx hx => HG.out x wx hx)
        clear hx hss hff HG hN1 hs1 hm1 hl1 hbr hk1
        cases g : getP l x with
        | some v =>
          rw [g] at HGx
          have e : Hid (R = (namesS (N.drop (i + 1))).foldl (lessO fun a => (getP l a).isNone) o1) := hide (by rw [hd, less_not (by simp [g])])
          clear hd Hd g
          gi_wp2_with (refine ⟨trivial, ?_⟩; gi_at_call 34; refine (CallsIn.inRound lx (callsIn_wide.2 (HGx.out _ hbd))).mono ?_; rintro e w1 ⟨rfl, kq, rfl⟩; have d1 := dn.drewN kq; have s1 := ds.drewN kq; have n1 := dm.drewN kq; have m0 := d1.cell 0; have m1 := s1.cell 0; have m2 := n1.cell 0; have f1 := s1.frozen 0; have f2 := n1.frozen 0; have hk2 := hkA.step hbds (quiet_b kq); have dN2 := dN.imp (fun h => h.below (quiet_b kq)) id)
          go_roundw
          case rel => exact ⟨i + 1, o1, by omega, by go_num, e, dN2, s1, n1, dl.drewN kq, below_drewN hbd kq, hk2⟩
          case measure => simp [RowKit.intOf]; omega
        | none =>
          rw [g] at HGx
          have hfx : (getP l x).isNone = true := by rw [g]; rfl
          cases ho1 : o1 with
          | none =>
            subst ho1
            have e : Hid (R = (namesS (N.drop (i + 1))).foldl (lessO fun a => (getP l a).isNone) (some x)) := hide (by rw [hd, less_none hfx])
            clear hd Hd g hfx
            simp only [Option.isSome_none, Option.getD_none] at ds dm
            gi_wp2_with (refine ⟨trivial, ?_⟩; gi_at_call 34; refine (CallsIn.inRound lx (callsIn_wide.2 (HGx.out _ hbd))).mono ?_; rintro e w1 ⟨rfl, kq, rfl⟩; have d1 := dn.drewN kq; have s1 := ds.drewN kq; have n1 := dm.drewN kq; have m0 := d1.cell 0; have m1 := s1.cell 0; have m2 := n1.cell 0; have f1 := s1.frozen 0; have f2 := n1.frozen 0; have hk2 := hkA.step hbds (quiet_b kq); have dN2 := dN.imp (fun h => h.below (quiet_b kq)) id)
            go_roundw
            case rel => exact ⟨i + 1, some x, by omega, by go_num, e, ((dN2.imp (fun h => (h.far (farT_blk n1 (by decide)) (farT_blk n1 (by decide)) (only_setCell (p := ⟨w.heap.size + 1, 0, none⟩) (only_self _ _) (.inl rfl) (.string x))).far (farT_blk (s1.far (p := ⟨w.heap.size + 1, 0, none⟩) e1 (.string x)) (by decide)) (farT_blk (s1.far (p := ⟨w.heap.size + 1, 0, none⟩) e1 (.string x)) (by decide)) (only_setCell (p := ⟨w.heap.size + 1 + 1, 0, none⟩) (only_self _ _) (.inl rfl) (.bool true))) id)),
              (s1.far (p := ⟨w.heap.size + 1, 0, none⟩) e1 (.string x)).set_ 0 (.bool true), (n1.set_ 0 (.string x)).far (p := ⟨w.heap.size + 1 + 1, 0, none⟩) (Ne.symm e1) (.bool true),
              ((dl.drewN kq).far (p := ⟨w.heap.size + 1, 0, none⟩) e3 (.string x)).far (p := ⟨w.heap.size + 1 + 1, 0, none⟩) e2 (.bool true),
              ((below_drewN hbd kq).setCell (p := ⟨w.heap.size + 1, 0, none⟩) l2 _).setCell (p := ⟨w.heap.size + 1 + 1, 0, none⟩) l1 _,
              (hk2.set l2 n1' (.string x)).set l1 n2' (.bool true)⟩
            case measure => simp [RowKit.intOf]; omega
          | some b =>
            subst ho1
            simp only [Option.isSome_some, Option.getD_some] at ds dm
            cases hb2 : nlt x b with
            | true =>
              have e : Hid (R = (namesS (N.drop (i + 1))).foldl (lessO fun a => (getP l a).isNone) (some x)) := hide (by rw [hd, less_lt hfx hb2])
              have hb3 : Op.bytesLess x.toList b.toList = true := hb2
              clear hd Hd g hfx hb2
              gi_wp2_with (refine ⟨trivial, ?_⟩; gi_at_call 34; refine (CallsIn.inRound lx (callsIn_wide.2 (HGx.out _ hbd))).mono ?_; rintro e w1 ⟨rfl, kq, rfl⟩; have d1 := dn.drewN kq; have s1 := ds.drewN kq; have n1 := dm.drewN kq; have m0 := d1.cell 0; have m1 := s1.cell 0; have m2 := n1.cell 0; have f1 := s1.frozen 0; have f2 := n1.frozen 0; have hk2 := hkA.step hbds (quiet_b kq); have dN2 := dN.imp (fun h => h.below (quiet_b kq)) id)
              go_roundw
              case rel => exact ⟨i + 1, some x, by omega, by go_num, e, ((dN2.imp (fun h => (h.far (farT_blk n1 (by decide)) (farT_blk n1 (by decide)) (only_setCell (p := ⟨w.heap.size + 1, 0, none⟩) (only_self _ _) (.inl rfl) (.string x))).far (farT_blk (s1.far (p := ⟨w.heap.size + 1, 0, none⟩) e1 (.string x)) (by decide)) (farT_blk (s1.far (p := ⟨w.heap.size + 1, 0, none⟩) e1 (.string x)) (by decide)) (only_setCell (p := ⟨w.heap.size + 1 + 1, 0, none⟩) (only_self _ _) (.inl rfl) (.bool true))) id)),
                (s1.far (p := ⟨w.heap.size + 1, 0, none⟩) e1 (.string x)).set_ 0 (.bool true), (n1.set_ 0 (.string x)).far (p := ⟨w.heap.size + 1 + 1, 0, none⟩) (Ne.symm e1) (.bool true),
                ((dl.drewN kq).far (p := ⟨w.heap.size + 1, 0, none⟩) e3 (.string x)).far (p := ⟨w.heap.size + 1 + 1, 0, none⟩) e2 (.bool true),
                ((below_drewN hbd kq).setCell (p := ⟨w.heap.size + 1, 0, none⟩) l2 _).setCell (p := ⟨w.heap.size + 1 + 1, 0, none⟩) l1 _,
                (hk2.set l2 n1' (.string x)).set l1 n2' (.bool true)⟩
              case measure => simp [RowKit.intOf]; omega
            | false =>
              have e : Hid (R = (namesS (N.drop (i + 1))).foldl (lessO fun a => (getP l a).isNone) (some b)) := hide (by rw [hd, less_ge hfx hb2])
              have hb3 : Op.bytesLess x.toList b.toList = false := hb2
              clear hd Hd g hfx hb2
              gi_wp2_with (refine ⟨trivial, ?_⟩; gi_at_call 34; refine (CallsIn.inRound lx (callsIn_wide.2 (HGx.out _ hbd))).mono ?_; rintro e w1 ⟨rfl, kq, rfl⟩; have d1 := dn.drewN kq; have s1 := ds.drewN kq; have n1 := dm.drewN kq; have m0 := d1.cell 0; have m1 := s1.cell 0; have m2 := n1.cell 0; have f1 := s1.frozen 0; have f2 := n1.frozen 0; have hk2 := hkA.step hbds (quiet_b kq); have dN2 := dN.imp (fun h => h.below (quiet_b kq)) id)
              go_roundw
              case rel => exact ⟨i + 1, some b, by omega, by go_num, e, dN2, s1, n1, dl.drewN kq, below_drewN hbd kq, hk2⟩
              case measure => simp [RowKit.intOf]; omega
      · have hi2 : i = n := by omega
        have e : Hid (R = o1) := hide (by rw [hff.out, hi2, List.drop_of_length_le (by have := Hlen.out; omega)]; rfl)
        clear hff Hd HG
        gi_wp2
        exact ⟨by rw [← hsz0]; exact hk1.1, hk1.2, by rw [e.out]; exact hs1, by rw [e.out]; exact hm1⟩
  case done =>
    rintro D W hD ⟨⟨g1, g2, g3⟩, hB⟩ hK
    rw [hall] at g1 g2
    have c1 := g1.cell 0
    have c2 := g2.cell 0
    have kdW : Below W.heap.size W W.drew := (Below.refl _ _).drew
    obtain ⟨R, hR⟩ : ∃ R, R = nextX X root l := ⟨_, rfl⟩
    rw [← hR] at g1 g2 c1 c2 HC
    have HR := hide hR
    clear hR
    gi_wp2
    refine wpIn_wide.2 ?_
    have c2' : W.cell? ⟨w.heap.size + 1, 0, none⟩ = some (.string (R.getD ByteArray.empty)) := c2
    have c1' : W.cell? ⟨w.heap.size + 1 + 1, 0, none⟩ = some (.bool R.isSome) := c1
    clear c1 c2
    go_region_held3 (fun w' => w'.cell? ⟨w.heap.size + 1, 0, none⟩ = some (.string (R.getD ByteArray.empty)) ∧ w'.cell? ⟨w.heap.size + 1 + 1, 0, none⟩ = some (.bool R.isSome)) (first | exact kc5 | exact ⟨c2', c1'⟩ | go_keep)
      (first
        | (go_at_call 26
           refine (HC.out _).mono ?_
           rintro e w5 ⟨rfl, hb5⟩
           have hb5k : Below W.heap.size W w5 := kdW.trans hb5
           have kc5 : w5.cell? ⟨w.heap.size + 1, 0, none⟩ = some (.string (R.getD ByteArray.empty)) ∧ w5.cell? ⟨w.heap.size + 1 + 1, 0, none⟩ = some (.bool R.isSome) := ⟨(g2.below hb5k g2.lt).cell 0, (g1.below hb5k g1.lt).cell 0⟩
           have hK5 : w5.heap[D]? = some (.deferred (some [])) := (hb5k.block D (Array.getElem?_eq_some_iff.1 hK).1).trans hK))
    all_goals
      gi_wp2
      refine ⟨by simp, .inl ⟨_, _, rfl, run_takeDeferred hK5, ?_⟩⟩
      rw [← HR.out]
      exact ⟨_, results_tmp2 rfl _ _ _, rfl, (hB.trans (hb5k.mono hB.size)).trans (kpN_b (n0 := w.heap.size) (bs := []) w5 D (.deferred (some [])) (.deferred none) (by omega) hK5 rfl).1⟩
theorem specNext : SpecNext := fun X root l pv A n c Al nl cl w h => by
  obtain ⟨⟨⟨hP, hX⟩, hf, hs, hv, hl, hr, hn, hok, hrn⟩, hp, hc, hnl, hpq, hokp⟩ := h
  obtain ⟨o, rfl⟩ := hP
  exact nextP_any X root l o A n c Al nl cl w hX hf hs hr hok hrn hp (by omega) hpq (okP_iff.1 hokp).1
end Go.Proofs.YtmoeilkaadnnoaaGreat.Plain
