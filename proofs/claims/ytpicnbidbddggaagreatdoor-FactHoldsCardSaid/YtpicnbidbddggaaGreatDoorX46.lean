/-
  Some texts of this claim, one behind the other: FactOne. What each proves, and its condition, stands at its head.
-/
import Derived.Test.YtpicnbidbddggaaGreatDoorX45
import Derived.Test.YtpicnbidbddggaaGreatDoorX36
import Derived.Test.YtpicnbidbddggaaGreatDoorX37
import Derived.Test.YtpicnbidbddggaaGreatDoorX13
/-
  Contracts of what the program's facts are made of: a need that is not met, one version that is chosen, one that is none of a package's releases', a fact's step. Condition: sets that may be, names that may be walked; at most 30 releases, of versions in range.
-/
namespace Go.Proofs.YtpicnbidbddggaaGreatDoor.Fact
open Go Go.RowKit Go.Lib Go.Proofs.YtpicnbidbddggaaGreatDoor.Span Go.Proofs.YtpicnbidbddggaaGreatDoor.Need Go.Proofs.YtpicnbidbddggaaGreatDoor.Mani Go.Proofs.YtpicnbidbddggaaGreatDoor.Index Go.Proofs.YtpicnbidbddggaaGreatDoor.Grow Go.Proofs.YtpicnbidbddggaaGreatDoor.Term Go.Proofs.YtpicnbidbddggaaGreatDoor.Clash Go.Proofs.YtpicnbidbddggaaGreatDoor.Fit
open Go.Proofs.YtpicnbidbddggaaGreatDoor.Label (runes fitL)
set_option linter.unusedVariables false
set_option maxHeartbeats 4000000 in
set_option maxRecDepth 100000 in
theorem unmetF_any (nm : ByteArray) (s : List S) (A : Option Addr) (n c : Nat) (w : World) (h : SpOn w A n s) (hnm : nm.size ≤ 1000000000) (hs : isSet (-1) s = true) :
    Calls Tryz.prog 40 #[.string nm, .slice A n c] w (Term.MakesT w (unmetT nm s)) := by
  obtain ⟨W, hW⟩ : ∃ W, W = w.alloc (.cells #[.string ⟨#[]⟩, .slice none 0 0, .bool false] 63) := ⟨_, rfl⟩
  have hbW : Below w.heap.size w W := by rw [hW]; exact alloc_b _
  have bk : Blk W w.heap.size 63 #[.string ⟨#[]⟩, .slice none 0 0, .bool false] := by rw [hW]; exact Blk.new _ _ _
  have hlW := bk.lt
  have HN : Hid (Calls Tryz.prog 68 #[.agg #[.string nm, .slice A n c, .bool false]] W (Term.MakesT W (unmetT nm s))) := hide (notT_any nm s false A n c W (h.on hbW) hnm hs)
  unfold Term.MakesT at HN ⊢
  generalize unmetT nm s = R at *
  clear h hs hnm
  go_enter Tryz.func40, Tryz.ntmps40
  go_upto_region 1 with fail
  try rw [← hW]
  clear hW
  go_wp2_with (first
    | (go_at_call 68
       refine HN.out.mono ?_
       rintro e w1 ⟨A1, n1, c1, rfl, hN1, hb1⟩
       have hbw := hbW.trans (hb1.mono hbW.size)
       have bk1 := bk.below hb1 bk.lt
       have k0 := bk1.cell 0
       have k1 := bk1.cell 1
       have k2 := bk1.cell 2
       have f0 := bk1.frozen 0
       have f1 := bk1.frozen 1
       have f2 := bk1.frozen 2))
  have hblk := stored_row (u := .string R.name) (v := .slice A1 n1 c1) (x := .bool R.none) bk1 rfl
  refine bodyPost_ret (results_cell_row rfl _ _ w.heap.size 63 _ (0, 0) _ rfl hblk Tryz.underlying63 rfl rfl) rfl ?_
  exact ⟨A1, n1, c1, rfl, (three_new hN1 (by omega) _ _ _).less (by omega), three_b hbw (by omega) _ _ _⟩
set_option maxHeartbeats 4000000 in
set_option maxRecDepth 100000 in
theorem chosenF_any (nm : ByteArray) (v : Int) (w : World) (h1 : -9223372036854775808 ≤ v) (h2 : v ≤ 9223372036854775807) :
    Calls Tryz.prog 57 #[.string nm, .int .i64 v] w (Term.MakesT w ⟨nm, oneS v, false⟩) := by
  obtain ⟨W, hW⟩ : ∃ W, W = w.alloc (.cells #[.string ⟨#[]⟩, .slice none 0 0, .bool false] 63) := ⟨_, rfl⟩
  have hbW : Below w.heap.size w W := by rw [hW]; exact alloc_b _
  have bk : Blk W w.heap.size 63 #[.string ⟨#[]⟩, .slice none 0 0, .bool false] := by rw [hW]; exact Blk.new _ _ _
  have hlW := bk.lt
  have HN := hide (one_any v W h1 h2)
  unfold Term.MakesT
  generalize oneS v = R at *
  clear h1 h2
  go_enter Tryz.func57, Tryz.ntmps57
  go_upto_region 1 with fail
  try rw [← hW]
  clear hW
  go_wp2_with (first
    | (go_at_call 97
       refine HN.out.mono ?_
       rintro e w1 ⟨A1, n1, c1, rfl, hN1, hb1⟩
       have hbw := hbW.trans (hb1.mono hbW.size)
       have bk1 := bk.below hb1 bk.lt
       have k0 := bk1.cell 0
       have k1 := bk1.cell 1
       have k2 := bk1.cell 2
       have f0 := bk1.frozen 0
       have f1 := bk1.frozen 1
       have f2 := bk1.frozen 2))
  have hblk := stored_row (u := .string nm) (v := .slice A1 n1 c1) (x := .bool false) bk1 rfl
  refine bodyPost_ret (results_cell_row rfl _ _ w.heap.size 63 _ (0, 0) _ rfl hblk Tryz.underlying63 rfl rfl) rfl ?_
  exact ⟨A1, n1, c1, rfl, (three_new hN1 (by omega) _ _ _).less (by omega), three_b hbw (by omega) _ _ _⟩
set_option maxHeartbeats 4000000 in
set_option maxRecDepth 100000 in
theorem unrelF_any (nm : ByteArray) (l : List Rl) (A : Option Addr) (n c : Nat) (w : World) (h : RlOn w A n l) (hn : n ≤ 30) (hp : ∀ q ∈ l, 0 ≤ q.1 ∧ q.1 < 1000000000) :
    Calls Tryz.prog 41 #[.agg #[.string nm, .slice A n c]] w (Term.MakesT w ⟨nm, notS (versS l), false⟩) := by
  unfold Term.MakesT
  show Calls _ _ _ _ fun e w' => ∃ A n c, e = .returned (.agg #[.string nm, .slice A n c, .bool false]) ∧ NewS w' w.heap.size A n c (notS (versS l)) ∧ Below w.heap.size w w'
  obtain ⟨W, hW⟩ : ∃ W, W = (w.alloc (.cells #[.string nm, .slice A n c] 85)).alloc (.cells #[.string ⟨#[]⟩, .slice none 0 0, .bool false] 63) := ⟨_, rfl⟩
  have hbW : Below w.heap.size w W := by rw [hW]; exact ((Below.refl _ _).alloc (Nat.le_refl _) _).alloc (by simp) _
  have ba : Blk W w.heap.size 85 #[.string nm, .slice A n c] := by rw [hW]; exact (Blk.new w _ _).alloc _
  have bk : Blk W (w.heap.size + 1) 63 #[.string ⟨#[]⟩, .slice none 0 0, .bool false] := by
    rw [hW]
    have := Blk.new (w.alloc (.cells #[.string nm, .slice A n c] 85)) 63 #[.string ⟨#[]⟩, .slice none 0 0, .bool false]
    rwa [World.size_alloc] at this
  have Hsz := hide (show W.heap.size = w.heap.size + 2 by rw [hW]; simp)
  have HV := hide (fun (wx : World) (hb : Below W.heap.size W wx) => versM_any nm l A n c wx (h.on (hbW.trans (hb.mono hbW.size))) hn hp)
  unfold Makes at HV
  have hset := vers_set l
  generalize versS l = V at *
  have HN := hide (fun (A1 : Option Addr) (n1 c1 : Nat) (wx : World) (hx : SpOn wx A1 n1 V) => @not_any wx.heap.size n1 c1 A1 V wx hx (Nat.le_refl _) hset)
  generalize notS V = L at *
  clear hset h hn hp
  go_enter Tryz.func41, Tryz.ntmps41
  go_upto_region 1 with fail
  try rw [← hW]
  clear hW
  have q0 := cell_reg_ ((ba.cell 0).trans (show (#[.string nm, .slice A n c] : Array Value)[0]? = some (.string nm) from rfl)) ba.lt
  have q1 := cell_reg_ ((ba.cell 1).trans (show (#[.string nm, .slice A n c] : Array Value)[1]? = some (.slice A n c) from rfl)) ba.lt
  refine wp_region_grow_w [(6, spR V), (7, setR W.heap.size L)] [6, 7] 6 (storesT (w.heap.size + 1) W.heap.size ⟨nm, L, false⟩) _
    (by kernel_rfl) (by kernel_rfl) rfl (by kernel_rfl) (by kernel_rfl) (by kernel_rfl) rfl rfl (by kernel_rfl) (by kernel_rfl) ⟨spR_stable _, setR_stable _ _, trivial⟩ ?_
  repeat (first
    | (refine lexK_skip (by decide) rfl ?_; simp only [Act.put, List.setIfInBounds_toArray, List.set_cons_zero, List.set_cons_succ])
    | (refine lexK_quiet (by decide) rfl rfl rfl (fun K hK => ?_); unfold Reg; go_big_quiet_op; refine hK _ ?_; clear hK K)
    | (refine lexK_rel (by decide) rfl rfl (fun w' hb9 hK => ?_) (fun v w' hb9 hv => ?_)
       · unfold grows
         go_simp
         go_at_call 70
         refine (HV.out w' hb9).mono ?_
         rintro e w8 ⟨A8, n8, c8, rfl, h8, hb8⟩
         exact ⟨_, rfl, hb8, A8, n8, c8, rfl, h8⟩
       obtain ⟨A3, n3, c3, rfl, hN3⟩ := hv
       simp only [Act.put, List.setIfInBounds_toArray, List.set_cons_zero, List.set_cons_succ])
    | (refine lexK_rel (by decide) rfl rfl (fun w' hb9 hK => ?_) (fun v w' hb9 hv => ?_)
       · obtain ⟨A4, n4, c4, e4, hN4⟩ := hK.at_ 6 rfl rfl (slice_d _ _ _)
         have e5 : Value.slice A3 n3 c3 = .slice A4 n4 c4 := e4
         injection e5 with e6 e7 e8
         subst e6 e7 e8
         unfold grows
         go_simp
         go_at_call 69
         refine (HN.out _ _ _ w' hN4).mono ?_
         rintro e w8 ⟨A8, n8, c8, rfl, h8, hb8⟩
         exact ⟨_, rfl, hb8, A8, n8, c8, rfl, h8.less (by have := hb9.size; omega)⟩
       obtain ⟨A6, n6, c6, rfl, hN6⟩ := hv
       simp only [Act.put, List.setIfInBounds_toArray, List.set_cons_zero, List.set_cons_succ])
    | (refine lexK_wr rfl rfl (fun w' hb9 hK => ?_) (fun v w' w'' hb9 hv => ?_)
       · obtain ⟨A4, n4, c4, e4, hN4⟩ := hK.at_ 7 rfl (slice_d _ _ _)
         have bk9 := bk.below hb9 bk.lt
         have k0 := bk9.cell 0
         have k1 := bk9.cell 1
         have k2 := bk9.cell 2
         have f0 := bk9.frozen 0
         have f1 := bk9.frozen 1
         have f2 := bk9.frozen 2
         unfold grows
         go_simp
         have e5 : Value.slice A6 n6 c6 = .slice A4 n4 c4 := e4
         injection e5 with e7 e8 e9
         subst e7 e8 e9
         exact ⟨_, _, _, hN4, rfl⟩
       simp only [Act.put]))
  refine lexK_nil (fun w9 w1 v hC9 hall hS _ => ?_)
  have hb9 := reg_iff.1 hC9
  obtain ⟨A5, n5, c5, hN5, rfl⟩ := hS
  clear hall q0 q1 HN HV
  have hbz := hb9.size
  have hsz := Hsz.out
  have hblk := stored_row (u := .string nm) (v := .slice A5 n5 c5) (x := .bool false) (bk.below hb9 bk.lt) rfl
  go_wp2
  refine bodyPost_ret (results_cell_row rfl _ _ (w.heap.size + 1) 63 _ (0, 0) _ rfl hblk Tryz.underlying63 rfl rfl) rfl ?_
  exact ⟨A5, n5, c5, rfl, (three_new hN5 (by omega) _ _ _).less (by omega), three_b (hbW.trans (hb9.mono hbW.size)) (by omega) _ _ _⟩
set_option maxHeartbeats 4000000 in
set_option maxRecDepth 100000 in
theorem stepF_any (k : Int) (nm : ByteArray) (v : Int) (d : ByteArray) (w : World) (hnm : nm.size ≤ 1000000000) (hd : d.size ≤ 1000000000) :
    Calls Tryz.prog 50 #[.int .i64 k, .string nm, .int .i64 v, .string d] w fun e w' => e = .returned (.agg #[.int .i64 k, .string nm, .int .i64 v, .string d, .int .i64 0, .int .i64 0]) ∧ Below w.heap.size w w' := by
  obtain ⟨W, hW⟩ : ∃ W, W = w.alloc (.cells #[.int .i64 0, .string ⟨#[]⟩, .int .i64 0, .string ⟨#[]⟩, .int .i64 0, .int .i64 0] 103) := ⟨_, rfl⟩
  have hbW : Below w.heap.size w W := by rw [hW]; exact alloc_b _
  have bk : Blk W w.heap.size 103 #[.int .i64 0, .string ⟨#[]⟩, .int .i64 0, .string ⟨#[]⟩, .int .i64 0, .int .i64 0] := by rw [hW]; exact Blk.new _ _ _
  have HC1 := hide (fun (wx : World) => Label.clone_any nm wx hnm)
  have HC2 := hide (fun (wx : World) => Label.clone_any d wx hd)
  clear hnm hd
  go_enter Tryz.func50, Tryz.ntmps50
  go_upto_region 1 with fail
  try rw [← hW]
  clear hW
  go_wp2_with (first
    | (go_at_call 26
       refine (HC2.out w1).mono ?_
       rintro e w2 ⟨rfl, hb2⟩
       have hbw := hbW.trans ((hb1.trans (hb2.mono hb1.size)).mono hbW.size)
       have bk2 := bk1.below hb2 bk1.lt
       have k0 := bk2.cell 0
       have k1 := bk2.cell 1
       have k2 := bk2.cell 2
       have k3 := bk2.cell 3
       have k4 := bk2.cell 4
       have k5 := bk2.cell 5
       have f0 := bk2.frozen 0
       have f1 := bk2.frozen 1
       have f2 := bk2.frozen 2
       have f3 := bk2.frozen 3
       have f4 := bk2.frozen 4
       have f5 := bk2.frozen 5)
    | (go_at_call 26
       refine (HC1.out W).mono ?_
       rintro e w1 ⟨rfl, hb1⟩
       have bk1 := bk.below hb1 bk.lt))
  have hblk := (((((bk2.set_ 0 (.int .i64 k)).set_ 1 (.string nm)).set_ 2 (.int .i64 v)).set_ 3 (.string d)).set_ 4 (.int .i64 0)).set_ 5 (.int .i64 0)
  have e : ((((((#[.int .i64 0, .string ⟨#[]⟩, .int .i64 0, .string ⟨#[]⟩, .int .i64 0, .int .i64 0] : Array Value).setIfInBounds 0 (.int .i64 k)).setIfInBounds 1 (.string nm)).setIfInBounds 2 (.int .i64 v)).setIfInBounds 3 (.string d)).setIfInBounds 4 (.int .i64 0)).setIfInBounds 5 (.int .i64 0) = #[.int .i64 k, .string nm, .int .i64 v, .string d, .int .i64 0, .int .i64 0] := rfl
  rw [e] at hblk
  refine bodyPost_ret (results_cell_row rfl _ _ w.heap.size 103 _ (0, 0) _ rfl hblk Tryz.underlying103 rfl rfl) rfl ?_
  refine ⟨rfl, ?_⟩
  exact ((((((hbw.setCell (p := ⟨w.heap.size, 0, none⟩) (Nat.le_refl _) _).setCell (p := ⟨w.heap.size, 1, none⟩) (Nat.le_refl _) _).setCell (p := ⟨w.heap.size, 2, none⟩) (Nat.le_refl _) _).setCell (p := ⟨w.heap.size, 3, none⟩) (Nat.le_refl _) _).setCell (p := ⟨w.heap.size, 4, none⟩) (Nat.le_refl _) _).setCell (p := ⟨w.heap.size, 5, none⟩) (Nat.le_refl _) _)
end Go.Proofs.YtpicnbidbddggaaGreatDoor.Fact
