/-
  Some texts of this claim, one behind the other: PlainPicks. What each proves, and its condition, stands at its head.
-/
import Derived.Test.YtmoeilkaadnnoaaGreatY30
import Derived.Test.YtmoeilkaadnnoaaGreatY46
import Derived.Test.YtmoeilkaadnnoaaGreatY11
/-
  The contract of the search's picks: what is picked, its names rising. Condition: names of at most 1,000,000,000 bytes; at most 1,000 tries.
-/
namespace Go.Proofs.YtmoeilkaadnnoaaGreat.Plain
open Go Go.RowKit Go.Lib Go.Sort Go.Proofs.YtmoeilkaadnnoaaGreat.Span Go.Proofs.YtmoeilkaadnnoaaGreat.Need Go.Proofs.YtmoeilkaadnnoaaGreat.Mani Go.Proofs.YtmoeilkaadnnoaaGreat.Wire Go.Proofs.YtmoeilkaadnnoaaGreat.Depot Go.Proofs.YtmoeilkaadnnoaaGreat.Index Go.Proofs.YtmoeilkaadnnoaaGreat.Reach Go.Proofs.YtmoeilkaadnnoaaGreat.Pick Go.Proofs.YtmoeilkaadnnoaaGreat.Fit Go.Proofs.YtmoeilkaadnnoaaGreat.MapV
set_option linter.unusedVariables false
theorem info_pickP : (Tryz.prog.info? 63).map (fun i => (i.zero, i.size, i.bytes)) = some (some (.agg #[.string ByteArray.empty, .int .i64 0]), 2, 24) := by kernel_rfl
section
variable {X : List Kn} {w0 : World} {b : Nat} {o : Option Addr} {K : Nat} {fuel : Int} {vf : ByteArray → Option Int} {O : List ByteArray} {F : List Tr} {vt : Value} {h : ByteArray → List (List S)}
def pairF (vf : ByteArray → Option Int) (F : List Tr) : List Pk := F.map fun t => (t.1, (vf t.1).getD 0)
set_option maxHeartbeats 8000000 in
set_option maxRecDepth 100000 in
theorem picksS_any (w : World) (g : Srch X w0 b o K fuel h vf O F vt w) (hF : ∀ t ∈ F, t.1.size ≤ 100) (hFl : F.length ≤ 1000) :
    Calls Tryz.prog 76 #[.pointer (some ⟨b, 0, none⟩)] w fun e w' => ∃ A n c d, e = .returned (.slice A n c) ∧ d.Perm (pairF vf F) ∧ d.Pairwise (fun x y => nlt y.1 x.1 = false) ∧ NewP w' w.heap.size A n c d ∧ Below w.heap.size w w' := by
  have hmx : maxLen = 9223372036854775807 := by unfold maxLen; omega
  obtain ⟨i0, hi0, hz0, hz1, hz2⟩ := info_parts info_pickP
  obtain ⟨mr, ma, mv, vo, hb, hm, hBb, hbw⟩ := g
  obtain ⟨A, n, c, rfl, hnF⟩ : ∃ A n c, vt = .slice A n c ∧ n = F.length := by
    obtain ⟨rs, g1, _⟩ := hm.tries
    obtain ⟨A, c, e, _⟩ := own_form g1
    exact ⟨A, _, c, e, rfl⟩
  obtain ⟨ps, hps⟩ : ∃ ps, ps = pairF vf F := ⟨_, rfl⟩
  have hpl : ps.length = n := by rw [hps, hnF]; simp [pairF]
  have hp1 : ∀ (i : Nat) (q : Tr), F[i]? = some q → ps[i]? = some (q.1, (vf q.1).getD 0) := fun i q hq => by rw [hps]; simp [pairF, hq]
  have k6 : w.cell? ⟨b, 6, none⟩ = some (.slice A n c) := hb.cell 6
  rw [← hps]
  have HT := hide (fun (wx : World) (hx : Below w.heap.size w wx) (i : Nat) (q : Tr) (hq : F[i]? = some q) => (hm.below hx).tries.at_ hq)
  have HSt := hide (fun (wx : World) (hx : Below w.heap.size w wx) => (⟨hb.below hx hb.lt, (hm.below hx).vers⟩ : Blk wx b 73 _ ∧ VersM wx mv K vf))
  have Hp1 := hide hp1
  have Hpl := hide hpl
  have HnF := hide hnF
  have Hsort := hide (fun (Ax : Option Addr) (nx cx : Nat) (d : List Pk) (wx : World) (hx : NewP wx w.heap.size Ax nx cx d) (hs : w.heap.size ≤ wx.heap.size) (hn : nx ≤ 1000000001) => sortP_new wx hx hs hn)
  clear hm hb hps hp1 hpl
  go_enter Tryz.func76, Tryz.ntmps76
  go_wp2
  go_loopw [3, 11] (fun u v wr => ∃ (i : Nat) (A2 : Option Addr) (n2 c2 : Nat), i ≤ n ∧ u = .slice A2 n2 c2 ∧ v = .int .i64 (i : Int) ∧ n2 = i ∧ NewP wr w.heap.size A2 n2 c2 (ps.take i) ∧ Below w.heap.size w wr) (fun _ v _ => n - (RowKit.intOf v).toNat)
  case atStart => exact ⟨0, none, 0, 0, by omega, rfl, rfl, rfl, NewP.nil_ _ _, Below.refl _ _⟩
  case round =>
    obtain ⟨i, A2, n2, c2, hi, rfl, rfl, hn2, hN, hbr⟩ := hrel
    have hbs := hbr.size
    by_cases hlt : i < n
    · have hiF : i < F.length := by omega
      obtain ⟨q, hq⟩ : ∃ q, F[i]? = some q := ⟨_, List.getElem?_eq_getElem hiF⟩
      have hqs := hF q (List.mem_of_getElem? hq)
      obtain ⟨tb, ct, cur, e1, _, _, _, _, _, Al, nl, cl, An, nn, cn, k0, k1, k2, _, _, _⟩ := HT.out wr hbr i q hq
      have hpi := Hp1.out i q hq
      have hts := take_snoc' ps i _ hpi
      obtain ⟨x, Lq, Nq⟩ := q
      simp only [] at hqs k0 hts
      injection e1 with e1 e2 e3
      subst e1
      clear e2 e3 hpi hq
      have HC := hide (fun wx => Label.clone_any x wx (by omega))
      obtain ⟨hbR, hvR⟩ := HSt.out wr hbr
      obtain ⟨V, hV⟩ : ∃ V, V = wr.alloc (.cells #[.string x, .slice Al nl cl, .slice An nn cn] 140) := ⟨_, rfl⟩
      have hVb : Below wr.heap.size wr V := by rw [hV]; exact alloc_bw _ _
      have hd : Blk V wr.heap.size 140 #[.string x, .slice Al nl cl, .slice An nn cn] := by rw [hV]; exact Blk.new _ _ _
      have hbVw : Below w.heap.size w V := hbr.trans (hVb.mono hbs)
      have hbV := hbR.below hVb hbR.lt
      have hvV : VersM V mv K vf := OwnTold.below hvR hVb
      have hownV : V.ownsRow w.heap.size 63 2 (.slice A2 n2 c2) n2 (pks (ps.take i)) := own_below hN.2.2.1 hVb
      have HE := hide (fun (wx : World) (h1 : Below V.heap.size V wx) => (⟨(hbV.below h1 hbV.lt).cell 5, (hd.below h1 hd.lt).cell 0, VersM.look1_ (w := wx) (OwnTold.below hvV h1) (by omega)⟩ : wx.cell? ⟨b, 5, none⟩ = some (.map (some mv)) ∧ wx.cell? ⟨wr.heap.size, 0, none⟩ = some (.string x) ∧ (Instr.lookup 69 (.map (some mv)) (.string x) false).run Tryz.prog wx = .ok (.int .i64 ((vf x).getD 0)) wx))
      have kdV : Below V.heap.size V V.drew := (Below.refl _ _).drew
      have kc := HE.out V (Below.refl _ _)
      have kcd := HE.out _ kdV
      have h02 : 0 < 2 := by omega
      have hmx1 : n2 + 1 ≤ maxLen := by omega
      have hby : (n2 + 1) * 24 ≤ 140737488355328 := by omega
      have Hts := hide hts
      have Hn2 := hide hn2
      have hVs := hbVw.size
      clear hts hN hbR hvR
      clear hn2
      go_upto_region 5 with fail
      rw [← hV]
      clear hV
      go_region_held3 (fun w' => w'.cell? ⟨b, 5, none⟩ = some (.map (some mv)) ∧ w'.cell? ⟨wr.heap.size, 0, none⟩ = some (.string x) ∧ (Instr.lookup 69 (.map (some mv)) (.string x) false).run Tryz.prog w' = .ok (.int .i64 ((vf x).getD 0)) w') (first | exact kc7 | exact kc6 | exact kc5 | exact kcd | exact kc | go_keep)
        (first
          | (go_at_call 26
             refine (HC.out _).mono ?_
             rintro e w5 ⟨rfl, hb5⟩
             have hb5k : Below V.heap.size V w5 := kdV.trans hb5
             have kc5 := HE.out _ hb5k
             have hb6k : Below V.heap.size V (w5.alloc (.cells #[.string x, .int .i64 ((vf x).getD 0)] 63)) := hb5k.alloc hb5k.size _
             have kc6 := HE.out _ hb6k
             have hown6 := own_below hownV hb6k
             have hrd5 := reads_pick w5 x ((vf x).getD 0) w5.heap.size rfl
             have hbs6 : w.heap.size ≤ (w5.alloc (.cells #[.string x, .int .i64 ((vf x).getD 0)] 63)).heap.size := Nat.le_trans hVs hb6k.size)
          | (refine wp_append_any _ (.tmp 15) (.tmp 27) _ rfl w.heap.size 63 i0 _ 2 24 Tryz.underlying27 hi0 hz0 hz1 hz2 rfl h02 _ n2 (pks (ps.take i)) rfl hown6 _ _ 1 _ _ rfl hrd5 (pks_one _) hmx1 hby hbs6 ?_
             intro v6 w6 hown7 hg7 hat7
             have hb7 := (hbV.below hb6k hbV.lt).grown hg7 (farT_own hown6 (by decide) _ _ _ (hbV.below hb6k hbV.lt))
             have hd7 := (hd.below hb6k hd.lt).grown hg7 (farT_own hown6 (by decide) _ _ _ (hd.below hb6k hd.lt))
             have hv7 : VersM w6 mv K vf := OwnTold.kept (OwnTold.below hvV hb6k) hg7 (ne_map_far (OwnTold.below hvV hb6k) (fun k hk => by
               rcases hown6.2 with ⟨e, _⟩ | ⟨q, cap, cur, e, _, hq, _⟩
               · rw [e] at hk; cases hk
               · rw [e] at hk
                 injection hk with hk
                 subst hk
                 exact ⟨cur, _, _, hq⟩))
             have kc7 : w6.cell? ⟨b, 5, none⟩ = some (.map (some mv)) ∧ w6.cell? ⟨wr.heap.size, 0, none⟩ = some (.string x) ∧ (Instr.lookup 69 (.map (some mv)) (.string x) false).run Tryz.prog w6 = .ok (.int .i64 ((vf x).getD 0)) w6 := ⟨hb7.cell 5, hd7.cell 0, hv7.look1_ (by omega)⟩
             have hb8 : Below w.heap.size w w6 := Below.grown (hbVw.trans (hb6k.mono hVs)) hg7 hbs6 (fun k hk => (hown6.lt k hk).1)
             rw [← pks_append] at hown7
             obtain ⟨A6, c6, rfl, hN6⟩ := newP_of_own hown7))
      all_goals
        rw [← Hts.out] at hN6
        go_wp2
        go_roundw
        case rel => exact ⟨i + 1, A6, n2 + 1, c6, by omega, rfl, by go_num, by have := Hn2.out; omega, hN6, hb8⟩
        case measure => simp [RowKit.intOf]; omega
    · have hi2 : i = n := by omega
      subst hn2
      subst hi2
      subst hnF
      have e0 : ps.take F.length = ps := List.take_of_length_le (by have := Hpl.out; omega)
      rw [e0] at hN
      have HSo := hide (Hsort.out A2 F.length c2 ps wr hN hbs (by omega))
      clear hN e0 HT HSt
      go_wp2_with (first
        | (go_at_call 98
           refine HSo.out.mono ?_
           rintro e w1 ⟨rfl, d, hdp, hdl, hdr, hd, hb1⟩))
      go_ret
      exact ⟨_, _, _, d, rfl, hdp, hdr, hd, hbr.trans hb1⟩
end
end Go.Proofs.YtmoeilkaadnnoaaGreat.Plain
