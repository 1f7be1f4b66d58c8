/-
  Some texts of this claim, one behind the other: SpanDo, SpanOn. What each proves, and its condition, stands at its head.
-/
import Derived.Test.YtllogmokadcfmaaGreatZB21
import Derived.Test.YtllogmokadcfmaaGreatZB3
import Derived.Test.YtllogmokadcfmaaGreatZB4
import Derived.Deep.RegionLaw
/-
  The contract of the document's Do, and of Union, Meet, Not, Of over it: the set of the places that an operation keeps. Condition: at most 10,000 spans each.
-/
namespace Go.Proofs.YtllogmokadcfmaaGreat.Span
open Go Go.RowKit Go.Lib
set_option linter.unusedVariables false
theorem step_append_any {P : Program} {ops : Array Oper} {o : Oper} {a : Act} {w : World} {K : Act → World → Prop} {Q : Exit → Act → World → Prop} {E : Prop} (hgd : o.guard = none) (s x : Operand) (t : TypeId)
    (ho : o.op = .call { callee := .builtin .append, args := #[s, x], argTypes := #[t, t] })
    (base : Nat) (e : TypeId) (i : TypeInfo) (z : Value) (size bytes : Nat) (ht : P.underlying t = some (.slice e)) (hi : P.info? e = some i) (hz : i.zero = some z)
    (hsize : i.size = size) (hby : i.bytes = bytes) (hzs : z.cells.size = size) (hsz : 0 < size)
    (v : Value) (n : Nat) (xs : List Value) (hs : a.eval s = v) (hown : w.ownsRow base e size v n xs)
    (B : Nat) (A : Option Addr) (m c : Nat) (news : List Value) (hx : a.eval x = .slice A m c) (hr : Reads w B size A m news) (h1 : ∀ u ∈ news, u.oneCell' = true)
    (h63 : n + m ≤ maxLen) (hbytes : (n + m) * bytes ≤ 140737488355328) (hbase : base ≤ w.heap.size)
    (h : ∀ v' w', w'.ownsRow base e size v' (n + m) (xs ++ news) → w.grownBy w' v.ownBlock → (v'.ownBlock = v.ownBlock ∨ v'.ownBlock = some w.heap.size) → K (a.put o.dst v') w') :
    if Region.wanted o (yielded ops a.tmps) = true then Oper.wp P o a w K Q else E := by
  have hw : Region.wanted o (yielded ops a.tmps) = true := by simp [Region.wanted, hgd]
  rw [if_pos hw]
  exact wp_append_any w s x t ho base e i z size bytes ht hi hz hsize hby hzs hsz v n xs hs hown B A m c news hx hr h1 h63 hbytes hbase h
def keptD (op : Int) (a b : List S) (p : Int) : Bool := toldM op (has a p) (has b p)
noncomputable def doS (op : Int) (a b : List S) : List S := nf (keptD op a b)
theorem do_step {op : Int} {a b : List S} {i : Nat} {lo hi : Int} (h1 : (cutsS a b)[i]? = some lo) (h2 : (cutsS a b)[i + 1]? = some hi) :
    0 ≤ lo ∧ lo < hi ∧ hi ≤ 1000000000 ∧
      (toldM op (has a lo) (has b lo) = true → nfTo (keptD op a b) hi = put (nfTo (keptD op a b) lo) (lo, hi)) ∧
      (toldM op (has a lo) (has b lo) = false → nfTo (keptD op a b) hi = nfTo (keptD op a b) lo) := by
  have hc := cutsS_ok a b
  have ha : Cuts (cutsS a b) a := hc.mono fun s hs => by simp [hs]
  have hb : Cuts (cutsS a b) b := hc.mono fun s hs => by simp [hs]
  obtain ⟨b0, b1, b2, _⟩ := hc.between h1 h2
  have key : ∀ p, lo ≤ p → p < hi → keptD op a b p = toldM op (has a lo) (has b lo) := fun p p0 p1 => by
    unfold keptD
    rw [ha.same h1 h2 p0 p1, hb.same h1 h2 p0 p1]
  exact ⟨b0, b1, b2, fun hk => nfTo_take (fun p p0 p1 => by rw [key p p0 p1, hk]) b0 b1 b2, fun hk => nfTo_skip (fun p p0 p1 => by rw [key p p0 p1, hk]) (by omega)⟩
set_option maxHeartbeats 4000000 in
set_option maxRecDepth 100000 in
theorem do_any {Ba na ca Bb nb cb : Nat} {Aa Ab : Option Addr} {a b : List S} (op : Int) (w : World)
    (hra : SpIn w Ba Aa na a) (hrb : SpIn w Bb Ab nb b) (hBa : Ba ≤ w.heap.size) (hBb : Bb ≤ w.heap.size) (hna : na ≤ 10000) (hnb : nb ≤ 10000) :
    Calls Tryz.prog 102 #[.int .i64 op, .slice Aa na ca, .slice Ab nb cb] w fun e w' =>
      ∃ A n c, e = .returned (.slice A n c) ∧ NewS w' w.heap.size A n c (doS op a b) ∧ Below w.heap.size w w' := by
  obtain ⟨i0, hi0, hz0, hz1, hz2⟩ := info_parts info_span
  have Hcuts := hide (@cuts_any Ba na ca Bb nb cb Aa Ab a b w hra hrb hBa hBb hna hnb)
  have Hst := hide (fun i lo hi => @do_step op a b i lo hi)
  have Hset := hide (fun lo => show (nfTo (keptD op a b) lo).length ≤ 1000000001 from len_le (nf_set _))
  have Hlow := hide (fun lo => @nfTo_low (keptD op a b) lo)
  have Htou := hide (fun lo hi a' t => @put_touch (keptD op a b) lo hi a' t)
  have Hapa := hide (fun lo hi a' t => @put_apart (keptD op a b) lo hi a' t)
  have Hz := hide (nfTo_zero (keptD op a b))
  have Ht := hide (fun n hn => @nfTo_top (keptD op a b) n hn)
  have Hok := hide (cutsS_ok a b)
  have Ha := hide (fun p wx (h : Below w.heap.size w wx) => @refHas_any _ _ ca _ a p wx (hra.below (h.mono hBa)) (by omega))
  have Hb := hide (fun p wx (h : Below w.heap.size w wx) => @refHas_any _ _ cb _ b p wx (hrb.below (h.mono hBb)) (by omega))
  have Htold := hide (fun x y wx => told_any op x y wx)
  have hlen : (cutsS a b).length ≤ 100000 := by
    unfold cutsS
    have h1 := fold2_len b (a.foldl cut2 [0, 1000000000])
    have h2 := fold2_len a [0, 1000000000]
    have h3 := hra.1
    have h4 := hrb.1
    simp only [List.length_cons, List.length_nil] at h2
    omega
  unfold doS
  generalize nf (keptD op a b) = N at *
  generalize nfTo (keptD op a b) = T at *
  generalize cutsS a b = L at *
  clear hra hrb
  go_enter Tryz.func102, Tryz.ntmps102
  go_wp2_with (go_at_call 113; refine Hcuts.out.mono ?_; rintro e w1 ⟨AL, nL, cL, rfl, hrL, hb1⟩)
  have hnL := len_ics hrL
  have hnL2 : nL ≤ 100000 := by omega
  have HnL := hide hnL
  clear Hcuts hnL hlen
  go_loopw [7, 9] (fun v u wr => ∃ (i : Nat) (lo : Int) (A : Option Addr) (n c : Nat), v = .slice A n c ∧ u = .int .i64 (i : Int) ∧ L[i]? = some lo ∧ NewS wr w1.heap.size A n c (T lo) ∧ Below w1.heap.size w1 wr) (fun _ u _ => nL - (intOf u).toNat)
  case atStart => exact ⟨0, 0, none, 0, 0, rfl, rfl, Hok.out.first, by rw [Hz.out]; exact NewS.nil_ _ _, Below.refl _ _⟩
  case round =>
    obtain ⟨i, lo, A, n, c, rfl, rfl, hlo, hL, hb⟩ := hrel
    have hiL : i < nL := by
      have := (List.getElem?_eq_some_iff.1 hlo).1
      have := HnL.out
      omega
    by_cases hlt : i + 1 < nL
    · obtain ⟨ad, z1, rfl, hbl, hz1', c1⟩ := ics_at (hrL.below hb) hiL
      obtain ⟨ad2, hh, hA2, _, hhi, c2⟩ := ics_at (hrL.below hb) hlt
      injection hA2 with hA2
      subst hA2
      rw [hlo] at hz1'
      injection hz1' with hz1'
      subst hz1'
      obtain ⟨g0, g1, g2, g3, g4⟩ := Hst.out i lo hh hlo hhi
      have hbw := hb1.trans (hb.mono hb1.size)
      have Hai := hide (fun m => Ha.out lo (wr.drewN m) (below_drewN hbw m))
      have Hbi := hide (fun m => Hb.out lo (wr.drewN m) (below_drewN hbw m))
      have G3 := hide g3
      have G4 := hide g4
      have Hhi := hide hhi
      have hin : (decide (0 ≤ lo) && decide (lo < 1000000000)) = true := by simp; omega
      rw [hin, Bool.and_true] at Hai Hbi
      have Hlen := hide (Hset.out lo)
      have Hlow1 := hide (Hlow.out lo)
      have Htou1 := hide (Htou.out lo hh)
      have Hapa1 := hide (Hapa.out lo hh)
      clear g3 g4 hlo hhi Hst Hset Hlow Htou Hapa Hz Ht Hok Ha Hb hin
      generalize has a lo = x at *
      generalize has b lo = y at *
      have Htl := hide (fun m => Htold.out x y (wr.drewN m))
      generalize toldM op x y = tl at *
      clear Htold
      go_upto_region 6 with fail
      go_cut [35] (fun u wx => u = .bool (!tl) ∧ ∃ m, wx = wr.drewN m)
      case first =>
        go_quiet (first
          | (go_at_call 114; exact quiet_left (Htl.out _))
          | (go_at_call_of 82 (Value.slice Ab nb cb); exact quiet_left (Hbi.out _))
          | (go_at_call_of 82 (Value.slice Aa na ca); exact quiet_left (Hai.out _)))
        go_wp2_with fail
        go_meet
        exact ⟨rfl, _, rfl⟩
      case rest =>
        obtain ⟨rfl, m, rfl⟩ := hcut
        clear Hai Hbi Htl
        have i1 : (0 : Int) ≤ (i : Int) := by omega
        have i2 : (i : Int) < (nL : Int) := by omega
        have i3 : (i : Int) + 1 < (nL : Int) := by omega
        have i4 : IntKind.i64.wrap ((i : Int) + 1) = (i : Int) + 1 := by rw [IntKind.wrap_i64]; omega
        have i5 : (0 : Int) ≤ (i : Int) + 1 := by omega
        have c3 : wr.cell? ⟨ad.block, ad.off + (i + 1), none⟩ = some (.int .i64 hh) := by rw [← c2]; congr 1
        cases tl with
        | false =>
          have e := G4.out rfl
          rw [← e] at hL
          clear e G3 G4
          go_wp2
          go_roundw
          case rel => exact ⟨i + 1, hh, A, n, c, rfl, by go_num, Hhi.out, hL.drewN m, below_drewN hb m⟩
          case measure => simp [intOf]; omega
        | true =>
          have E := hide (G3.out rfl)
          clear G3 G4
          have hnn : n ≤ 1000000001 := by rw [hL.1]; exact Hlen.out
          have hown := hL.2.2.1
          rcases List.eq_nil_or_concat (T lo) with he | ⟨a', t, he⟩
          · have hn0 : n = 0 := by rw [hL.1, he]; rfl
            subst hn0
            have EE := hide (show T hh = T lo ++ [(lo, hh)] by rw [E.out, he]; rfl)
            have hsz : scs (T lo) = [] := by rw [he]; rfl
            clear E Htou1 Hapa1 Hlow1 Hlen he hnn
            go_upto_region 8 with fail
            go_quiet (fail)
            go_upto_region 10 with fail
            go_region_law (
              refine step_append_any rfl (.tmp 67) (.tmp 78) _ rfl w1.heap.size 56 i0 _ 2 16 Tryz.underlying36 hi0 hz0 hz1 hz2 rfl (by omega) _ _ _ rfl
                (own_below hown ?_) _ _ 1 _ _ rfl (reads_one _ lo hh _ ?_) (scs_one _) ?_ ?_ ?_ ?_
              · exact (below_drewN (Below.refl _ _) _).alloc (Nat.le_refl _) _
              · rfl
              · unfold maxLen; omega
              · omega
              · simp; have := hb.size; omega
              intro v1 w3 hown2 hg2 hat2
              have hb3 : Below w1.heap.size w1 w3 := ((below_drewN hb _).alloc hb.size _).grown hg2 (by simp; have := hb.size; omega) (fun k hk => (hown.lt k hk).1))
            all_goals (
              rw [← scs_append] at hown2
              obtain ⟨A3, c3, rfl, hN3⟩ := newS_of_own hown2
              rw [← EE.out] at hN3
              clear EE hsz hown hL
              go_wp2_with fail
              go_roundw
              case rel => exact ⟨i + 1, hh, A3, _, c3, rfl, by go_num, Hhi.out, hN3, hb3⟩
              case measure => simp [intOf]; omega)
          · rw [List.concat_eq_append] at he
            obtain ⟨k, hk⟩ : ∃ k, k = a'.length := ⟨_, rfl⟩
            have hnk : n = k + 1 := by rw [hL.1, he, hk]; simp
            subst hnk
            have hat : (T lo)[k]? = some t := by rw [he, hk]; simp
            obtain ⟨g, rfl, hBg, hgl, k1, k2, f1, f2, _, _⟩ := hL.cells_ k t hat
            have d0 : decide ((0 : Int) ≤ (k : Int)) = true := decide_eq_true (by omega)
            have d1 : (k : Int) < (k : Int) + 1 := by omega
            have d2 : (0 : Int) ≤ (k : Int) := by omega
            have hadd : (⟨g, 0, none⟩ : Addr).add (k * 2) = ⟨g, k * 2, none⟩ := by unfold Addr.add; split <;> simp_all
            have htou := hide (fun ht => Htou1.out a' t he ht g1)
            have hapa := hide (fun ht => Hapa1.out a' t he ht)
            have hst2 := hide (show ∀ z, (T lo).set k (t.1, z) = a' ++ [(t.1, z)] by intro z; rw [he, hk]; simp)
            obtain ⟨p, q⟩ := t
            simp only [] at k1 k2 htou hapa hst2
            clear he Htou1 Hapa1 Hlow1 Hlen hk
            by_cases hq : q = lo
            · have hq' : (q == lo) = true := by simpa using hq
              have EE := hide (show T hh = a' ++ [(p, hh)] by rw [E.out]; exact htou.out hq)
              clear hq E htou hapa
              go_upto_region 8 with fail
              go_quiet (fail)
              go_upto_region 9 with fail
              go_region
              obtain ⟨g', e', _, _, _, _, _, _, _, hset⟩ := (hL.drewN (m + nq + 1)).cells_ k (p, q) hat
              injection e' with e'
              injection e' with e'
              subst e'
              have hfin := hset p hh
              rw [hst2.out, ← EE.out] at hfin
              clear hset hst2 EE hown hL
              go_wp2_with fail
              go_roundw
              case rel => exact ⟨i + 1, hh, _, _, c, rfl, by go_num, Hhi.out, hfin, ((below_drewN hb _).setCell hBg _).setCell hBg _⟩
              case measure => simp [intOf]; omega
            · have hq' : (q == lo) = false := by simpa using hq
              have EE := hide (show T hh = T lo ++ [(lo, hh)] by rw [E.out]; exact hapa.out hq)
              clear hq E htou hapa hst2
              go_upto_region 8 with fail
              go_quiet (fail)
              go_upto_region 10 with fail
              go_region_law (
                refine step_append_any rfl (.tmp 67) (.tmp 78) _ rfl w1.heap.size 56 i0 _ 2 16 Tryz.underlying36 hi0 hz0 hz1 hz2 rfl (by omega) _ _ _ rfl
                  (own_below hown ?_) _ _ 1 _ _ rfl (reads_one _ lo hh _ ?_) (scs_one _) ?_ ?_ ?_ ?_
                · exact (below_drewN (Below.refl _ _) _).alloc (Nat.le_refl _) _
                · rfl
                · unfold maxLen; omega
                · omega
                · simp; have := hb.size; omega
                intro v1 w3 hown2 hg2 hat2
                have hb3 : Below w1.heap.size w1 w3 := ((below_drewN hb _).alloc hb.size _).grown hg2 (by simp; have := hb.size; omega) (fun k hk => (hown.lt k hk).1))
              all_goals (
                rw [← scs_append] at hown2
                obtain ⟨A3, c3, rfl, hN3⟩ := newS_of_own hown2
                rw [← EE.out] at hN3
                clear EE hown hL
                go_wp2_with fail
                go_roundw
                case rel => exact ⟨i + 1, hh, A3, _, c3, rfl, by go_num, Hhi.out, hN3, hb3⟩
                case measure => simp [intOf]; omega)
    · have hi2 : i + 1 = L.length := by have := HnL.out; omega
      have e := Hok.out.last hi2 hlo
      have e2 := Ht.out lo (by omega)
      rw [e2] at hL
      clear e e2 Hst Hset Hlow Htou Hapa Hz Ht Hok Ha Hb Htold hi2
      go_wp2
      go_ret
      exact ⟨_, _, _, rfl, hL.less hb1.size, hb1.trans (hb.mono hb1.size)⟩
theorem refMeet_any {Ba na ca Bb nb cb : Nat} {Aa Ab : Option Addr} {a b : List S} (w : World)
    (hra : SpIn w Ba Aa na a) (hrb : SpIn w Bb Ab nb b) (hBa : Ba ≤ w.heap.size) (hBb : Bb ≤ w.heap.size) (hna : na ≤ 10000) (hnb : nb ≤ 10000) :
    Calls Tryz.prog 79 #[.slice Aa na ca, .slice Ab nb cb] w fun e w' =>
      ∃ A n c, e = .returned (.slice A n c) ∧ NewS w' w.heap.size A n c (meetS a b) ∧ Below w.heap.size w w' := by
  have Hs := hide (@do_any Ba na ca Bb nb cb Aa Ab a b 1 w hra hrb hBa hBb hna hnb)
  rw [show doS 1 a b = meetS a b from nf_congr fun p _ _ => by unfold keptD toldM; simp [kept]] at Hs
  generalize meetS a b = N at *
  go_enter Tryz.func79, Tryz.ntmps79
  go_wp2_with (go_at_call 102; refine Hs.out.mono ?_; rintro e w1 ⟨A, n, c, rfl, hN, hb2⟩)
  go_ret
  exact ⟨_, _, _, rfl, hN, hb2⟩
theorem less_meet {a b : List S} (ha : isSet (-1) a = true) : decide (meetS a b = a) = decide (lessS a b = []) := by
  rw [decide_eq_decide]
  unfold meetS lessS
  rw [nf_nil]
  constructor
  · intro h p p0 p1
    have := nf_in (kept (fun x y => x && y) a b) p0 p1
    rw [h] at this
    unfold kept at *
    cases h1 : has a p <;> cases h2 : has b p <;> simp_all
  · intro h
    refine (is_nf ha fun p p0 p1 => ?_).symm
    have := h p p0 p1
    unfold kept at *
    cases h1 : has a p <;> cases h2 : has b p <;> simp_all
theorem refWithin_any {Ba na ca Bb nb cb : Nat} {Aa Ab : Option Addr} {a b : List S} (w : World)
    (hra : SpIn w Ba Aa na a) (hrb : SpIn w Bb Ab nb b) (hBa : Ba ≤ w.heap.size) (hBb : Bb ≤ w.heap.size) (hna : na ≤ 10000) (hnb : nb ≤ 10000) (ha : isSet (-1) a = true) :
    Calls Tryz.prog 78 #[.slice Aa na ca, .slice Ab nb cb] w fun e w' => e = .returned (.bool (decide (lessS a b = []))) ∧ Below w.heap.size w w' := by
  have Hs := hide (@refMeet_any Ba na ca Bb nb cb Aa Ab a b w hra hrb hBa hBb hna hnb)
  have hml : (meetS a b).length ≤ 1000000001 := len_le (nf_set _)
  have Hsame := hide (fun (A : Option Addr) (n c : Nat) (wx : World) (hN : SpIn wx wx.heap.size A n (meetS a b)) (hb : Below w.heap.size w wx) =>
    @refSame_any _ n c Ba na ca A Aa (meetS a b) a wx hN (hra.below (hb.mono hBa)) (by rw [← hN.1]; exact hml) (by omega))
  rw [less_meet ha] at Hsame
  generalize decide (lessS a b = []) = r at *
  generalize meetS a b = N at *
  clear hml
  go_enter Tryz.func78, Tryz.ntmps78
  go_wp2_with (first
    | (go_at_call 79; refine Hs.out.mono ?_; rintro e w1 ⟨A, n, c, rfl, hN, hb2⟩)
    | (go_at_call 48; refine (Hsame.out _ _ _ _ hN.2.2.2 hb2).mono ?_; rintro e w2 ⟨rfl, k, rfl⟩))
  go_ret
  exact ⟨rfl, below_drewN hb2 k⟩
end Go.Proofs.YtllogmokadcfmaaGreat.Span
/-
  The contracts of layer 6 in one form: slices that read so in the world at hand; what was made stays. And the chapter's examples (awake). No condition beyond each contract's own.
-/
namespace Go.Proofs.YtllogmokadcfmaaGreat.Span
open Go Go.RowKit Go.Lib
set_option linter.unusedVariables false
section
variable {A A' : Option Addr} {n c n' c' : Nat} {l m : List S} {w : World}
theorem within_on (h : SpOn w A n l) (h' : SpOn w A' n' m) (hs : isSet (-1) l = true) (hs' : isSet (-1) m = true) : Calls Tryz.prog 72 #[.slice A n c, .slice A' n' c'] w (Tells w (.bool (decide (lessS l m = [])))) :=
  within_any w h h' (Nat.le_refl _) (Nat.le_refl _) hs hs'
theorem refWithin_on (h : SpOn w A n l) (h' : SpOn w A' n' m) (hn : n ≤ 10000) (hn' : n' ≤ 10000) (hs : isSet (-1) l = true) : Calls Tryz.prog 78 #[.slice A n c, .slice A' n' c'] w (Tells w (.bool (decide (lessS l m = [])))) :=
  refWithin_any w h h' (Nat.le_refl _) (Nat.le_refl _) (by omega) (by omega) hs
theorem check_on (h : SpOn w A n l) (hn : n ≤ 1000000001) : Calls Tryz.prog 68 #[.slice A n c] w (Tells w (.bool (isSet (-1) l))) := check_any w h (Nat.le_refl _) hn
theorem refCheck_on (h : SpOn w A n l) (hn : n ≤ 1000000001) : Calls Tryz.prog 60 #[.slice A n c] w (Tells w (.bool (isSet (-1) l))) := tells_drew (refCheck_any w h hn)
theorem refSame_on (h : SpOn w A n l) (h' : SpOn w A' n' m) (hn : n ≤ 1000000001) (hn' : n' ≤ 1000000001) : Calls Tryz.prog 48 #[.slice A n c, .slice A' n' c'] w (Tells w (.bool (decide (l = m)))) := tells_drew (refSame_any w h h' hn hn')
theorem has_on (p : Int) (h : SpOn w A n l) (hn : n ≤ 1000000001) : Calls Tryz.prog 32 #[.slice A n c, .int .i64 p] w (Tells w (.bool (has l p))) := has_any p w h (Nat.le_refl _) hn
theorem refHas_on (p : Int) (h : SpOn w A n l) (hn : n ≤ 1000000001) (hs : isSet (-1) l = true) : Calls Tryz.prog 82 #[.slice A n c, .int .i64 p] w (Tells w (.bool (has l p))) := by
  have := tells_same (refHas_any (c := c) p w h hn)
  have e : (has l p && (decide (0 ≤ p) && decide (p < 1000000000))) = has l p := by
    cases hh : has l p with
    | false => rfl
    | true => have := has_range hs hh; simp; omega
  rwa [e] at this
end
end Go.Proofs.YtllogmokadcfmaaGreat.Span
