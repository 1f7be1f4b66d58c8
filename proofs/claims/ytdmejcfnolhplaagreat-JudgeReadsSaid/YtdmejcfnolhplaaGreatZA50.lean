/-
  Some texts of this claim, one behind the other: FactOne. What each proves, and its condition, stands at its head.
-/
import Derived.Test.YtdmejcfnolhplaaGreatZA49
import Derived.Test.YtdmejcfnolhplaaGreatZA38
import Derived.Test.YtdmejcfnolhplaaGreatZA28
import Derived.Test.YtdmejcfnolhplaaGreatZA9
/-
  Contracts of what the program's facts are made of: a need that is not met, one version that is chosen, one that is none of a package's releases', a fact's step. Condition: sets that may be, names that may be walked; at most 30 releases, of versions in range.
-/
namespace Go.Proofs.YtdmejcfnolhplaaGreat.Fact
open Go Go.RowKit Go.Lib Go.Proofs.YtdmejcfnolhplaaGreat.Span Go.Proofs.YtdmejcfnolhplaaGreat.Need Go.Proofs.YtdmejcfnolhplaaGreat.Mani Go.Proofs.YtdmejcfnolhplaaGreat.Index Go.Proofs.YtdmejcfnolhplaaGreat.Grow Go.Proofs.YtdmejcfnolhplaaGreat.Term Go.Proofs.YtdmejcfnolhplaaGreat.Clash Go.Proofs.YtdmejcfnolhplaaGreat.Fit
open Go.Proofs.YtdmejcfnolhplaaGreat.Label (runes fitL)
set_option linter.unusedVariables false
set_option maxHeartbeats 4000000 in
set_option maxRecDepth 100000 in
theorem unmetF_any (nm : ByteArray) (s : List S) (A : Option Addr) (n c : Nat) (w : World) (h : SpOn w A n s) (hnm : nm.size ≤ 1000000000) (hs : isSet (-1) s = true) :
    Calls Tryz.prog 75 #[.string nm, .slice A n c] w (Term.MakesT w (unmetT nm s)) := by
  obtain ⟨W, hW⟩ : ∃ W, W = w.alloc (.cells #[.string ⟨#[]⟩, .slice none 0 0, .bool false] 77) := ⟨_, rfl⟩
  have hbW : Below w.heap.size w W := by rw [hW]; exact alloc_b _
  have bk : Blk W w.heap.size 77 #[.string ⟨#[]⟩, .slice none 0 0, .bool false] := by rw [hW]; exact Blk.new _ _ _
  have hlW := bk.lt
  have HN : Hid (Calls Tryz.prog 110 #[.agg #[.string nm, .slice A n c, .bool false]] W (Term.MakesT W (unmetT nm s))) := hide (notT_any nm s false A n c W (h.on hbW) hnm hs)
  unfold Term.MakesT at HN ⊢
  generalize unmetT nm s = R at *
  clear h hs hnm
  go_enter Tryz.func75, Tryz.ntmps75
  go_upto_region 1 with fail
  try rw [← hW]
  clear hW
  go_wp2_with (first
    | (go_at_call 110
       refine HN.out.mono ?_
       rintro e w1 ⟨A1, n1, c1, rfl, hN1, hb1⟩
       have hbw := hbW.trans (hb1.mono hbW.size)
       have bk1 := bk.below hb1 bk.lt
       have k0 := bk1.cell 0
       have k1 := bk1.cell 1
       have k2 := bk1.cell 2
       have f0 := bk1.frozen 0
       have f1 := bk1.frozen 1
       have f2 := bk1.frozen 2))
  have hblk := stored_row (u := .string R.name) (v := .slice A1 n1 c1) (x := .bool R.none) bk1 rfl
  refine bodyPost_ret (results_cell_row rfl _ _ w.heap.size 77 _ (0, 0) _ rfl hblk Tryz.underlying77 rfl rfl) rfl ?_
  exact ⟨A1, n1, c1, rfl, (three_new hN1 (by omega) _ _ _).less (by omega), three_b hbw (by omega) _ _ _⟩
set_option maxHeartbeats 4000000 in
set_option maxRecDepth 100000 in
theorem chosenF_any (nm : ByteArray) (v : Int) (w : World) (h1 : -9223372036854775808 ≤ v) (h2 : v ≤ 9223372036854775807) :
    Calls Tryz.prog 79 #[.string nm, .int .i64 v] w (Term.MakesT w ⟨nm, oneS v, false⟩) := by
  obtain ⟨W, hW⟩ : ∃ W, W = w.alloc (.cells #[.string ⟨#[]⟩, .slice none 0 0, .bool false] 77) := ⟨_, rfl⟩
  have hbW : Below w.heap.size w W := by rw [hW]; exact alloc_b _
  have bk : Blk W w.heap.size 77 #[.string ⟨#[]⟩, .slice none 0 0, .bool false] := by rw [hW]; exact Blk.new _ _ _
  have hlW := bk.lt
  have HN := hide (one_any v W h1 h2)
  unfold Term.MakesT
  generalize oneS v = R at *
  clear h1 h2
  go_enter Tryz.func79, Tryz.ntmps79
  go_upto_region 1 with fail
  try rw [← hW]
  clear hW
  go_wp2_with (first
    | (go_at_call 115
       refine HN.out.mono ?_
       rintro e w1 ⟨A1, n1, c1, rfl, hN1, hb1⟩
       have hbw := hbW.trans (hb1.mono hbW.size)
       have bk1 := bk.below hb1 bk.lt
       have k0 := bk1.cell 0
       have k1 := bk1.cell 1
       have k2 := bk1.cell 2
       have f0 := bk1.frozen 0
       have f1 := bk1.frozen 1
       have f2 := bk1.frozen 2))
  have hblk := stored_row (u := .string nm) (v := .slice A1 n1 c1) (x := .bool false) bk1 rfl
  refine bodyPost_ret (results_cell_row rfl _ _ w.heap.size 77 _ (0, 0) _ rfl hblk Tryz.underlying77 rfl rfl) rfl ?_
  exact ⟨A1, n1, c1, rfl, (three_new hN1 (by omega) _ _ _).less (by omega), three_b hbw (by omega) _ _ _⟩
set_option maxHeartbeats 4000000 in
set_option maxRecDepth 100000 in
theorem unrelF_any (nm : ByteArray) (l : List Rl) (A : Option Addr) (n c : Nat) (w : World) (h : RlOn w A n l) (hn : n ≤ 30) (hp : ∀ q ∈ l, 0 ≤ q.1 ∧ q.1 < 1000000000) :
    Calls Tryz.prog 77 #[.agg #[.string nm, .slice A n c]] w (Term.MakesT w ⟨nm, notS (versS l), false⟩) := by
  unfold Term.MakesT
  show Calls _ _ _ _ fun e w' => ∃ A n c, e = .returned (.agg #[.string nm, .slice A n c, .bool false]) ∧ NewS w' w.heap.size A n c (notS (versS l)) ∧ Below w.heap.size w w'
  obtain ⟨W, hW⟩ : ∃ W, W = (w.alloc (.cells #[.string nm, .slice A n c] 100)).alloc (.cells #[.string ⟨#[]⟩, .slice none 0 0, .bool false] 77) := ⟨_, rfl⟩
  have hbW : Below w.heap.size w W := by rw [hW]; exact ((Below.refl _ _).alloc (Nat.le_refl _) _).alloc (by simp) _
  have ba : Blk W w.heap.size 100 #[.string nm, .slice A n c] := by rw [hW]; exact (Blk.new w _ _).alloc _
  have bk : Blk W (w.heap.size + 1) 77 #[.string ⟨#[]⟩, .slice none 0 0, .bool false] := by
    rw [hW]
    have := Blk.new (w.alloc (.cells #[.string nm, .slice A n c] 100)) 77 #[.string ⟨#[]⟩, .slice none 0 0, .bool false]
    rwa [World.size_alloc] at this
  have Hsz := hide (show W.heap.size = w.heap.size + 2 by rw [hW]; simp)
  have HV := hide (fun (wx : World) (hb : Below W.heap.size W wx) => versM_any nm l A n c wx (h.on (hbW.trans (hb.mono hbW.size))) hn hp)
  unfold Makes at HV
  have hset := vers_set l
  generalize versS l = V at *
  have HN := hide (fun (A1 : Option Addr) (n1 c1 : Nat) (wx : World) (hx : SpOn wx A1 n1 V) => @not_any wx.heap.size n1 c1 A1 V wx hx (Nat.le_refl _) hset)
  generalize notS V = L at *
  clear hset h hn hp
  go_enter Tryz.func77, Tryz.ntmps77
  go_upto_region 1 with fail
  try rw [← hW]
  clear hW
  have q0 := cell_reg_ ((ba.cell 0).trans (show (#[.string nm, .slice A n c] : Array Value)[0]? = some (.string nm) from rfl)) ba.lt
  have q1 := cell_reg_ ((ba.cell 1).trans (show (#[.string nm, .slice A n c] : Array Value)[1]? = some (.slice A n c) from rfl)) ba.lt
  refine wp_region_grow_w [(6, spR V), (7, setR W.heap.size L)] [6, 7] 6 (storesT (w.heap.size + 1) W.heap.size ⟨nm, L, false⟩) _
    (by kernel_rfl) (by kernel_rfl) rfl (by kernel_rfl) (by kernel_rfl) (by kernel_rfl) rfl rfl (by kernel_rfl) (by kernel_rfl) ⟨spR_stable _, setR_stable _ _, trivial⟩ ?_
  repeat (first
    | (refine lexK_skip (by decide) rfl ?_; simp only [Act.put, List.setIfInBounds_toArray, List.set_cons_zero, List.set_cons_succ])
    | (refine lexK_quiet (by decide) rfl rfl rfl (fun K hK => ?_); unfold Reg; go_big_quiet_op; refine hK _ ?_; clear hK K)
    | (refine lexK_rel (by decide) rfl rfl (fun w' hb9 hK => ?_) (fun v w' hb9 hv => ?_)
       · unfold grows
         go_simp
         go_at_call 113
         refine (HV.out w' hb9).mono ?_
         rintro e w8 ⟨A8, n8, c8, rfl, h8, hb8⟩
         exact ⟨_, rfl, hb8, A8, n8, c8, rfl, h8⟩
       obtain ⟨A3, n3, c3, rfl, hN3⟩ := hv
       simp only [Act.put, List.setIfInBounds_toArray, List.set_cons_zero, List.set_cons_succ])
    | (refine lexK_rel (by decide) rfl rfl (fun w' hb9 hK => ?_) (fun v w' hb9 hv => ?_)
       · obtain ⟨A4, n4, c4, e4, hN4⟩ := hK.at_ 6 rfl rfl (slice_d _ _ _)
         have e5 : Value.slice A3 n3 c3 = .slice A4 n4 c4 := e4
         injection e5 with e6 e7 e8
         subst e6 e7 e8
         unfold grows
         go_simp
         go_at_call 112
         refine (HN.out _ _ _ w' hN4).mono ?_
         rintro e w8 ⟨A8, n8, c8, rfl, h8, hb8⟩
         exact ⟨_, rfl, hb8, A8, n8, c8, rfl, h8.less (by have := hb9.size; omega)⟩
       obtain ⟨A6, n6, c6, rfl, hN6⟩ := hv
       simp only [Act.put, List.setIfInBounds_toArray, List.set_cons_zero, List.set_cons_succ])
    | (refine lexK_wr rfl rfl (fun w' hb9 hK => ?_) (fun v w' w'' hb9 hv => ?_)
       · obtain ⟨A4, n4, c4, e4, hN4⟩ := hK.at_ 7 rfl (slice_d _ _ _)
         have bk9 := bk.below hb9 bk.lt
         have k0 := bk9.cell 0
         have k1 := bk9.cell 1
         have k2 := bk9.cell 2
         have f0 := bk9.frozen 0
         have f1 := bk9.frozen 1
         have f2 := bk9.frozen 2
         unfold grows
         go_simp
         have e5 : Value.slice A6 n6 c6 = .slice A4 n4 c4 := e4
         injection e5 with e7 e8 e9
         subst e7 e8 e9
         exact ⟨_, _, _, hN4, rfl⟩
       simp only [Act.put]))
  refine lexK_nil (fun w9 w1 v hC9 hall hS _ => ?_)
  have hb9 := reg_iff.1 hC9
  obtain ⟨A5, n5, c5, hN5, rfl⟩ := hS
  clear hall q0 q1 HN HV
  have hbz := hb9.size
  have hsz := Hsz.out
  have hblk := stored_row (u := .string nm) (v := .slice A5 n5 c5) (x := .bool false) (bk.below hb9 bk.lt) rfl
  go_wp2
  refine bodyPost_ret (results_cell_row rfl _ _ (w.heap.size + 1) 77 _ (0, 0) _ rfl hblk Tryz.underlying77 rfl rfl) rfl ?_
  exact ⟨A5, n5, c5, rfl, (three_new hN5 (by omega) _ _ _).less (by omega), three_b (hbW.trans (hb9.mono hbW.size)) (by omega) _ _ _⟩
end Go.Proofs.YtdmejcfnolhplaaGreat.Fact
