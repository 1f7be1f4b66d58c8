/-
  Some texts of this claim, one behind the other: TermMake. What each proves, and its condition, stands at its head.
-/
import Derived.Test.YtllogmokadcfmaaGreatZB23
import Derived.Test.YtllogmokadcfmaaGreatZB28
import Derived.Test.YtllogmokadcfmaaGreatZB31
import Derived.Shelf.Abstract
/-
  Contracts of the program's Not, Meet and Join of terms (over of, together and the two closures that it is told by), and of the document's. Condition: sets; names of at most 1,000,000,000 bytes (the document's: sets of at most 10,000 spans).
-/
namespace Go.Proofs.YtllogmokadcfmaaGreat.Term
open Go Go.RowKit Go.Lib Go.Proofs.YtllogmokadcfmaaGreat.Span Go.Proofs.YtllogmokadcfmaaGreat.Need Go.Proofs.YtllogmokadcfmaaGreat.Grow
set_option linter.unusedVariables false
theorem stored_row {w : World} {g : Nat} {u v x : Value} {cs : Array Value} (h : Blk w g 38 cs) (h3 : cs.size = 3) :
    Blk (((w.setCell ⟨g, 0, none⟩ u).setCell ⟨g, 1, none⟩ v).setCell ⟨g, 2, none⟩ x) g 38 #[u, v, x] := by
  have hb := ((h.set_ 0 u).set_ 1 v).set_ 2 x
  have e : ((cs.setIfInBounds 0 u).setIfInBounds 1 v).setIfInBounds 2 x = #[u, v, x] := by
    apply Array.ext
    · simp [h3]
    · intro i h1 h2
      have : i < 3 := by simpa [h3] using h1
      rcases i with _ | _ | _ | i
      · simp [h3]
      · simp [h3]
      · simp
      · omega
  rwa [e] at hb
theorem three_b {w0 w : World} {g : Nat} (h : Below w0.heap.size w0 w) (hg : w0.heap.size ≤ g) (u v x : Value) : Below w0.heap.size w0 (((w.setCell ⟨g, 0, none⟩ u).setCell ⟨g, 1, none⟩ v).setCell ⟨g, 2, none⟩ x) :=
  ((h.setCell hg u).setCell hg v).setCell hg x
theorem three_new {w : World} {B n c g : Nat} {A : Option Addr} {l : List S} (h : NewS w B A n c l) (hg : g < B) (u v x : Value) : NewS (((w.setCell ⟨g, 0, none⟩ u).setCell ⟨g, 1, none⟩ v).setCell ⟨g, 2, none⟩ x) B A n c l :=
  far_new (far_new (far_new h (by exact hg) u) (by exact hg) v) (by exact hg) x
set_option maxHeartbeats 4000000 in
set_option maxRecDepth 100000 in
theorem of_any (nm : ByteArray) (A : Option Addr) (n c : Nat) (z : Bool) (w : World) (hnm : nm.size ≤ 1000000000) :
    Calls Tryz.prog 87 #[.string nm, .slice A n c, .bool z] w fun e w' => e = .returned (.agg #[.string nm, .slice A n c, .bool z]) ∧ Below w.heap.size w w' := by
  have HK := hide (fun (wx : World) => Label.clone_any nm wx hnm)
  obtain ⟨W, hW⟩ : ∃ W, W = w.alloc (.cells #[.string ⟨#[]⟩, .slice none 0 0, .bool false] 38) := ⟨_, rfl⟩
  have hbW : Below w.heap.size w W := by rw [hW]; exact alloc_b _
  have bk : Blk W w.heap.size 38 #[.string ⟨#[]⟩, .slice none 0 0, .bool false] := by rw [hW]; exact Blk.new _ _ _
  clear hnm
  go_enter Tryz.func87, Tryz.ntmps87
  go_upto_region 1 with fail
  try rw [← hW]
  clear hW
  go_wp2_with (first
    | (go_at_call 43
       refine (HK.out _).mono ?_
       rintro e w1 ⟨rfl, hb1⟩
       have bk1 := bk.below hb1 bk.lt
       have hbw := hbW.trans (hb1.mono hbW.size)
       have k0 := bk1.cell 0
       have k1 := bk1.cell 1
       have k2 := bk1.cell 2
       have f0 := bk1.frozen 0
       have f1 := bk1.frozen 1
       have f2 := bk1.frozen 2))
  have hblk := stored_row (u := .string nm) (v := .slice A n c) (x := .bool z) bk1 rfl
  refine bodyPost_ret (results_cell_row rfl _ _ w.heap.size 38 _ (0, 0) _ rfl hblk Tryz.underlying38 rfl rfl) rfl ?_
  exact ⟨rfl, three_b hbw (Nat.le_refl _) _ _ _⟩
theorem agg_inj {u v : Value} {A A' : Option Addr} {n c n' c' : Nat} (h : Value.agg #[u, .slice A n c, v] = .agg #[u, .slice A' n' c', v]) : A = A' ∧ n = n' ∧ c = c' := by
  injection h with h
  have := congrArg (fun l : Array Value => l[1]?) h
  simp at this
  exact this
set_option maxHeartbeats 4000000 in
set_option maxRecDepth 100000 in
theorem meet1_any (a b : ByteArray) (s t : List S) (x y : Bool) (A A' : Option Addr) (n c n' c' : Nat) (w : World) (h : SpOn w A n s) (h' : SpOn w A' n' t) (g g' : Nat) (hB : Blk w g 38 #[.string a, .slice A n c, .bool x]) (hB' : Blk w g' 38 #[.string b, .slice A' n' c', .bool y]) (hs : isSet (-1) s = true) (ht : isSet (-1) t = true) :
    Calls Tryz.prog 70 #[.pointer (some ⟨g, 0, none⟩), .pointer (some ⟨g', 0, none⟩)] w fun e w' =>
      ∃ A n c, e = .returned (.tuple #[.slice A n c, .bool (x && y)]) ∧ NewS w' w.heap.size A n c (meetS s t) ∧ Below w.heap.size w w' := by
  have HN := hide (fun (wx : World) (hb : Below w.heap.size w wx) => @meet_any wx.heap.size n c wx.heap.size n' c' A A' s t wx (h.on hb) (h'.on hb) (Nat.le_refl _) (Nat.le_refl _) hs ht)
  generalize meetS s t = L at *
  clear hs ht h h'
  have q0 := cell_reg_ ((hB.cell 0).trans (show (#[.string a, .slice A n c, .bool x] : Array Value)[0]? = some (.string a) from rfl)) hB.lt
  have q1 := cell_reg_ ((hB.cell 1).trans (show (#[.string a, .slice A n c, .bool x] : Array Value)[1]? = some (.slice A n c) from rfl)) hB.lt
  have q2 := cell_reg_ ((hB.cell 2).trans (show (#[.string a, .slice A n c, .bool x] : Array Value)[2]? = some (.bool x) from rfl)) hB.lt
  have q3 := cell_reg_ ((hB'.cell 0).trans (show (#[.string b, .slice A' n' c', .bool y] : Array Value)[0]? = some (.string b) from rfl)) hB'.lt
  have q4 := cell_reg_ ((hB'.cell 1).trans (show (#[.string b, .slice A' n' c', .bool y] : Array Value)[1]? = some (.slice A' n' c') from rfl)) hB'.lt
  have q5 := cell_reg_ ((hB'.cell 2).trans (show (#[.string b, .slice A' n' c', .bool y] : Array Value)[2]? = some (.bool y) from rfl)) hB'.lt
  cases x <;>
  · go_enter Tryz.func70, Tryz.ntmps70
    go_upto_region 1 with fail
    refine wp_region_grow [(8, setR w.heap.size L)] [8]
      (by kernel_rfl) (by kernel_rfl) rfl (by kernel_rfl) (by kernel_rfl) ⟨setR_stable _ _, trivial⟩ ?_
    repeat (first
      | (refine lex_skip rfl ?_; simp only [Act.put, List.setIfInBounds_toArray, List.set_cons_zero, List.set_cons_succ])
      | (refine lex_quiet rfl rfl rfl (fun K hK => ?_); unfold Reg; go_big_quiet_op; refine hK _ ?_; clear hK K)
      | (refine lex_rel rfl rfl (fun w' hb9 hK => ?_) (fun v w' hb9 hv => ?_)
         · unfold grows
           go_simp
           go_at_call 71
           refine (HN.out w' hb9).mono ?_
           rintro e w8 ⟨A8, n8, c8, rfl, h8, hb8⟩
           exact ⟨_, rfl, hb8, A8, n8, c8, rfl, h8.less hb9.size⟩
         obtain ⟨A3, n3, c3, rfl, hN3⟩ := hv
         simp only [Act.put, List.setIfInBounds_toArray, List.set_cons_zero, List.set_cons_succ]))
    refine lex_nil (fun w9 hC9 hall => ?_)
    have hb9 := reg_iff.1 hC9
    obtain ⟨A5, n5, c5, e5, hN5⟩ := hall 4 _ 8 _ rfl rfl rfl (slice_d _ _ _)
    injection e5 with e5 e6 e7
    subst e5 e6 e7
    clear hall q0 q1 q2 q3 q4 q5 hC9
    go_wp2
    go_ret2
    exact ⟨_, _, _, rfl, hN5, hb9⟩
def oneT (a b : ByteArray) (L : List S) (q : Bool) : Tm := if a = b then ⟨a, L, q⟩ else noT
set_option maxHeartbeats 4000000 in
set_option maxRecDepth 100000 in
theorem together_any (a b : ByteArray) (x y : Bool) (A A' : Option Addr) (n c n' c' : Nat) (w : World) (L : List S) (q : Bool) (f : FuncId) (P1 P2 : Value) (ha : a.size ≤ 1000000000)
    (eg : ∀ args w, (callFunc f args).run Tryz.prog w = .ok (.enter f args) w)
    (hK : ∀ wx, Below w.heap.size w wx → Calls Tryz.prog f #[P1, P2] wx fun e w' => ∃ A n c, e = .returned (.tuple #[.slice A n c, .bool q]) ∧ NewS w' wx.heap.size A n c L ∧ Below wx.heap.size wx w') :
    Calls Tryz.prog 69 #[.agg #[.string a, .slice A n c, .bool x], .agg #[.string b, .slice A' n' c', .bool y], .func (.func f) #[] #[P1, P2]] w (MakesT w (oneT a b L q)) := by
  unfold MakesT oneT
  obtain ⟨W, hW⟩ : ∃ W, W = ((w.alloc (.cells #[.string a, .slice A n c, .bool x] 38)).alloc (.cells #[.string b, .slice A' n' c', .bool y] 38)).alloc (.cells #[.string ⟨#[]⟩, .slice none 0 0, .bool false] 38) := ⟨_, rfl⟩
  have hbW : Below w.heap.size w W := by rw [hW]; exact (((Below.refl _ _).alloc (Nat.le_refl _) _).alloc (by simp) _).alloc (by simp; omega) _
  have ba : Blk W w.heap.size 38 #[.string a, .slice A n c, .bool x] := by rw [hW]; exact ((Blk.new w _ _).alloc _).alloc _
  have bb : Blk W (w.heap.size + 1) 38 #[.string b, .slice A' n' c', .bool y] := by
    rw [hW]
    have := (Blk.new (w.alloc (.cells #[.string a, .slice A n c, .bool x] 38)) 38 #[.string b, .slice A' n' c', .bool y]).alloc (.cells #[.string ⟨#[]⟩, .slice none 0 0, .bool false] 38)
    rwa [World.size_alloc] at this
  have bk : Blk W (w.heap.size + 2) 38 #[.string ⟨#[]⟩, .slice none 0 0, .bool false] := by
    rw [hW]
    have := Blk.new ((w.alloc (.cells #[.string a, .slice A n c, .bool x] 38)).alloc (.cells #[.string b, .slice A' n' c', .bool y] 38)) 38 #[.string ⟨#[]⟩, .slice none 0 0, .bool false]
    simpa [World.size_alloc] using this
  have Hsz := hide (show W.heap.size = w.heap.size + 3 by rw [hW]; simp)
  have HK := hide hK
  have HO := hide (fun (Ax : Option Addr) (nx cx : Nat) (wx : World) => of_any a Ax nx cx q wx ha)
  have he := eq_names a b
  clear hK ha
  by_cases g : a = b
  · rw [decide_eq_true g] at he
    have hne : (a.toList != b.toList) = false := by rw [bne, he]; rfl
    rw [if_pos g]
    clear g
    have ka := ba.cell 0
    have kb := bb.cell 0
    go_enter Tryz.func69, Tryz.ntmps69
    go_upto_region 1 with fail
    try rw [← hW]
    clear hW
    go_wp2_with (first
      | (go_at_fn f
         refine (HK.out _ hbW).mono ?_
         rintro e w1 ⟨A1, n1, c1, rfl, hN1, hb1⟩
         have hbw := hbW.trans (hb1.mono hbW.size)
         have kc := (ba.below hb1 ba.lt).cell 0
         have bk1 := bk.below hb1 bk.lt)
      | (go_at_call 87
         refine (HO.out _ _ _ w1).mono ?_
         rintro e w2 ⟨rfl, hb2⟩
         have hN2 := hN1.below hb2
         have hbw2 := hbw.trans (hb2.mono hbw.size)
         have bk2 := bk1.below hb2 bk1.lt
         have k0 := bk2.cell 0
         have k1 := bk2.cell 1
         have k2 := bk2.cell 2
         have f0 := bk2.frozen 0
         have f1 := bk2.frozen 1
         have f2 := bk2.frozen 2))
    have hsz := Hsz.out
    have hblk := stored_row (u := .string a) (v := .slice A1 n1 c1) (x := .bool q) bk2 rfl
    refine bodyPost_ret (results_cell_row rfl _ _ (w.heap.size + 2) 38 _ (0, 0) _ rfl hblk Tryz.underlying38 rfl rfl) rfl ?_
    exact ⟨A1, n1, c1, rfl, (three_new hN2 (by omega) _ _ _).less (by omega), three_b hbw2 (by omega) _ _ _⟩
  · rw [decide_eq_false g] at he
    have hne : (a.toList != b.toList) = true := by rw [bne, he]; rfl
    rw [if_neg g]
    clear g
    have ka := ba.cell 0
    have kb := bb.cell 0
    have k0 := bk.cell 0
    have k1 := bk.cell 1
    have k2 := bk.cell 2
    have f0 := bk.frozen 0
    have f1 := bk.frozen 1
    have f2 := bk.frozen 2
    go_enter Tryz.func69, Tryz.ntmps69
    go_upto_region 1 with fail
    try rw [← hW]
    clear hW
    go_wp2
    have hsz := Hsz.out
    have hblk := stored_row (u := .string ⟨#[]⟩) (v := .slice none 0 0) (x := .bool false) bk rfl
    refine bodyPost_ret (results_cell_row rfl _ _ (w.heap.size + 2) 38 _ (0, 0) _ rfl hblk Tryz.underlying38 rfl rfl) rfl ?_
    exact ⟨none, 0, 0, rfl, NewS.nil_ _ _, three_b hbW (by omega) _ _ _⟩
set_option maxHeartbeats 4000000 in
set_option maxRecDepth 100000 in
theorem meetT_any (a b : ByteArray) (s t : List S) (x y : Bool) (A A' : Option Addr) (n c n' c' : Nat) (w : World) (h : SpOn w A n s) (h' : SpOn w A' n' t) (ha : a.size ≤ 1000000000) (hs : isSet (-1) s = true) (ht : isSet (-1) t = true) :
    Calls Tryz.prog 39 #[.agg #[.string a, .slice A n c, .bool x], .agg #[.string b, .slice A' n' c', .bool y]] w (MakesT w (meetT ⟨a, s, x⟩ ⟨b, t, y⟩)) := by
  have e : meetT ⟨a, s, x⟩ ⟨b, t, y⟩ = oneT a b (meetS s t) (x && y) := rfl
  rw [e]
  clear e
  obtain ⟨W, hW⟩ : ∃ W, W = ((w.alloc (.cells #[.string a, .slice A n c, .bool x] 38)).alloc (.cells #[.string b, .slice A' n' c', .bool y] 38)).alloc (.cells #[.string ⟨#[]⟩, .slice none 0 0, .bool false] 38) := ⟨_, rfl⟩
  have hbW : Below w.heap.size w W := by rw [hW]; exact (((Below.refl _ _).alloc (Nat.le_refl _) _).alloc (by simp) _).alloc (by simp; omega) _
  have ba : Blk W w.heap.size 38 #[.string a, .slice A n c, .bool x] := by rw [hW]; exact ((Blk.new w _ _).alloc _).alloc _
  have bb : Blk W (w.heap.size + 1) 38 #[.string b, .slice A' n' c', .bool y] := by
    rw [hW]
    have := (Blk.new (w.alloc (.cells #[.string a, .slice A n c, .bool x] 38)) 38 #[.string b, .slice A' n' c', .bool y]).alloc (.cells #[.string ⟨#[]⟩, .slice none 0 0, .bool false] 38)
    rwa [World.size_alloc] at this
  have bk : Blk W (w.heap.size + 2) 38 #[.string ⟨#[]⟩, .slice none 0 0, .bool false] := by
    rw [hW]
    have := Blk.new ((w.alloc (.cells #[.string a, .slice A n c, .bool x] 38)).alloc (.cells #[.string b, .slice A' n' c', .bool y] 38)) 38 #[.string ⟨#[]⟩, .slice none 0 0, .bool false]
    simpa [World.size_alloc] using this
  have Hsz := hide (show W.heap.size = w.heap.size + 3 by rw [hW]; simp)
  have HT := hide (together_any a b x y A A' n c n' c' W (meetS s t) (x && y) 70 (.pointer (some ⟨w.heap.size, 0, none⟩)) (.pointer (some ⟨w.heap.size + 1, 0, none⟩)) ha
    (enters_of Tryz.func70 (by kernel_rfl) rfl)
    (fun wx hb => meet1_any a b s t x y A A' n c n' c' wx (h.on (hbW.trans (hb.mono hbW.size))) (h'.on (hbW.trans (hb.mono hbW.size))) _ _ (ba.below hb ba.lt) (bb.below hb bb.lt) hs ht))
  unfold MakesT at HT ⊢
  have hmf : ∀ (fn : Fn) (first cap : Array Value) (w : World), (Instr.makeFunc fn first cap).run Tryz.prog w = .ok (.func fn first cap) w := fun _ _ _ _ => rfl
  generalize oneT a b (meetS s t) (x && y) = R at *
  have ka0 := ba.cell 0
  have ka1 := ba.cell 1
  have ka2 := ba.cell 2
  have kb0 := bb.cell 0
  have kb1 := bb.cell 1
  have kb2 := bb.cell 2
  clear h h' ha hs ht ba bb
  go_enter Tryz.func39, Tryz.ntmps39
  go_upto_region 1 with fail
  try rw [← hW]
  clear hW
  go_wp2_with (first
    | (go_at_call 69
       refine HT.out.mono ?_
       rintro e w1 ⟨A1, n1, c1, rfl, hN1, hb1⟩
       have hbw := hbW.trans (hb1.mono hbW.size)
       have bk1 := bk.below hb1 bk.lt
       have k0 := bk1.cell 0
       have k1 := bk1.cell 1
       have k2 := bk1.cell 2
       have f0 := bk1.frozen 0
       have f1 := bk1.frozen 1
       have f2 := bk1.frozen 2))
  have hsz := Hsz.out
  have hblk := stored_row (u := .string R.name) (v := .slice A1 n1 c1) (x := .bool R.none) bk1 rfl
  refine bodyPost_ret (results_cell_row rfl _ _ (w.heap.size + 2) 38 _ (0, 0) _ rfl hblk Tryz.underlying38 rfl rfl) rfl ?_
  exact ⟨A1, n1, c1, rfl, (three_new hN1 (by omega) _ _ _).less (by omega), three_b hbw (by omega) _ _ _⟩
set_option maxHeartbeats 8000000 in
set_option maxRecDepth 100000 in
theorem refMeetT_any (a b : ByteArray) (s t : List S) (x y : Bool) (A A' : Option Addr) (n c n' c' : Nat) (w : World) (h : SpOn w A n s) (h' : SpOn w A' n' t) (hn : n ≤ 10000) (hn' : n' ≤ 10000) :
    Calls Tryz.prog 58 #[.agg #[.string a, .slice A n c, .bool x], .agg #[.string b, .slice A' n' c', .bool y]] w (MakesT w (meetT ⟨a, s, x⟩ ⟨b, t, y⟩)) := by
  have e : meetT ⟨a, s, x⟩ ⟨b, t, y⟩ = oneT a b (meetS s t) (x && y) := rfl
  rw [e]
  clear e
  unfold MakesT oneT
  obtain ⟨W, hW⟩ : ∃ W, W = ((w.alloc (.cells #[.string a, .slice A n c, .bool x] 38)).alloc (.cells #[.string b, .slice A' n' c', .bool y] 38)).alloc (.cells #[.string ⟨#[]⟩, .slice none 0 0, .bool false] 38) := ⟨_, rfl⟩
  have hbW : Below w.heap.size w W := by rw [hW]; exact (((Below.refl _ _).alloc (Nat.le_refl _) _).alloc (by simp) _).alloc (by simp; omega) _
  have ba : Blk W w.heap.size 38 #[.string a, .slice A n c, .bool x] := by rw [hW]; exact ((Blk.new w _ _).alloc _).alloc _
  have bb : Blk W (w.heap.size + 1) 38 #[.string b, .slice A' n' c', .bool y] := by
    rw [hW]
    have := (Blk.new (w.alloc (.cells #[.string a, .slice A n c, .bool x] 38)) 38 #[.string b, .slice A' n' c', .bool y]).alloc (.cells #[.string ⟨#[]⟩, .slice none 0 0, .bool false] 38)
    rwa [World.size_alloc] at this
  have bk : Blk W (w.heap.size + 2) 38 #[.string ⟨#[]⟩, .slice none 0 0, .bool false] := by
    rw [hW]
    have := Blk.new ((w.alloc (.cells #[.string a, .slice A n c, .bool x] 38)).alloc (.cells #[.string b, .slice A' n' c', .bool y] 38)) 38 #[.string ⟨#[]⟩, .slice none 0 0, .bool false]
    simpa [World.size_alloc] using this
  have Hsz := hide (show W.heap.size = w.heap.size + 3 by rw [hW]; simp)
  have HN := hide (fun (wx : World) (hb : Below W.heap.size W wx) => @refMeet_any wx.heap.size n c wx.heap.size n' c' A A' s t wx (h.on (hbW.trans (hb.mono hbW.size))) (h'.on (hbW.trans (hb.mono hbW.size))) (Nat.le_refl _) (Nat.le_refl _) hn hn')
  have HO := hide True.intro
  generalize meetS s t = L at *
  have he := eq_names a b
  clear hn hn' h'
  by_cases g : a = b
  · rw [decide_eq_true g] at he
    have hne : (a.toList != b.toList) = false := by rw [bne, he]; rfl
    rw [if_pos g]
    clear g
    have ka := ba.cell 0
    have kb := bb.cell 0
    cases x with
    | false =>
      have q0 := cell_reg_ ((ba.cell 0).trans (show (#[.string a, .slice A n c, .bool false] : Array Value)[0]? = some (.string a) from rfl)) ba.lt
      have q1 := cell_reg_ ((ba.cell 1).trans (show (#[.string a, .slice A n c, .bool false] : Array Value)[1]? = some (.slice A n c) from rfl)) ba.lt
      have q2 := cell_reg_ ((ba.cell 2).trans (show (#[.string a, .slice A n c, .bool false] : Array Value)[2]? = some (.bool false) from rfl)) ba.lt
      have q3 := cell_reg_ ((bb.cell 0).trans (show (#[.string b, .slice A' n' c', .bool y] : Array Value)[0]? = some (.string b) from rfl)) bb.lt
      have q4 := cell_reg_ ((bb.cell 1).trans (show (#[.string b, .slice A' n' c', .bool y] : Array Value)[1]? = some (.slice A' n' c') from rfl)) bb.lt
      have q5 := cell_reg_ ((bb.cell 2).trans (show (#[.string b, .slice A' n' c', .bool y] : Array Value)[2]? = some (.bool y) from rfl)) bb.lt
      go_enter Tryz.func58, Tryz.ntmps58
      go_upto_region 3 with fail
      try rw [← hW]
      clear hW ka kb
      refine wp_region_grow_w [(17, setR W.heap.size L)] [17] 14 (storesT (w.heap.size + 2) W.heap.size ⟨a, L, (false && y)⟩) _
        (by kernel_rfl) (by kernel_rfl) rfl (by kernel_rfl) (by kernel_rfl) (by kernel_rfl) rfl rfl (by kernel_rfl) (by kernel_rfl) ⟨setR_stable _ _, trivial⟩ ?_
      repeat (first
        | (refine lexK_skip (by decide) rfl ?_; simp only [Act.put, List.setIfInBounds_toArray, List.set_cons_zero, List.set_cons_succ])
        | (refine lexK_quiet (by decide) rfl rfl rfl (fun K hK => ?_); unfold Reg; go_big_quiet_op; refine hK _ ?_; clear hK K)
        | (refine lexK_rel (by decide) rfl rfl (fun w' hb9 hK => ?_) (fun v w' hb9 hv => ?_)
           · unfold grows
             go_simp
             go_at_call 79
             refine (HN.out w' hb9).mono ?_
             rintro e w8 ⟨A8, n8, c8, rfl, h8, hb8⟩
             exact ⟨_, rfl, hb8, A8, n8, c8, rfl, h8.less (by have := hb9.size; omega)⟩
           obtain ⟨A3, n3, c3, rfl, hN3⟩ := hv
           simp only [Act.put, List.setIfInBounds_toArray, List.set_cons_zero, List.set_cons_succ])
        | (refine lexK_wr rfl rfl (fun w' hb9 hK => ?_) (fun v w' w'' hb9 hv => ?_)
           · obtain ⟨A4, n4, c4, e4, hN4⟩ := hK.at_ 17 rfl (slice_d _ _ _)
             have bk9 := bk.below hb9 bk.lt
             have k0 := bk9.cell 0
             have k1 := bk9.cell 1
             have k2 := bk9.cell 2
             have f0 := bk9.frozen 0
             have f1 := bk9.frozen 1
             have f2 := bk9.frozen 2
             unfold grows
             go_simp
             have e5 : Value.slice A3 n3 c3 = .slice A4 n4 c4 := e4
             injection e5 with e6 e7 e8
             subst e6 e7 e8
             exact ⟨_, _, _, hN4, rfl⟩
           simp only [Act.put]))
      refine lexK_nil (fun w9 w1 v hC9 hall hS _ => ?_)
      have hb9 := reg_iff.1 hC9
      obtain ⟨A5, n5, c5, hN5, rfl⟩ := hS
      clear hall q0 q1 q2 q3 q4 q5 HN HO
      have hbz := hb9.size
      have hsz := Hsz.out
      have hblk := stored_row (u := .string a) (v := .slice A5 n5 c5) (x := .bool (false && y)) (bk.below hb9 bk.lt) rfl
      go_wp2
      refine bodyPost_ret (results_cell_row rfl _ _ (w.heap.size + 2) 38 _ (0, 0) _ rfl hblk Tryz.underlying38 rfl rfl) rfl ?_
      exact ⟨A5, n5, c5, rfl, (three_new hN5 (by omega) _ _ _).less (by omega), three_b (hbW.trans (hb9.mono hbW.size)) (by omega) _ _ _⟩
    | true =>
      have q0 := cell_reg_ ((ba.cell 0).trans (show (#[.string a, .slice A n c, .bool true] : Array Value)[0]? = some (.string a) from rfl)) ba.lt
      have q1 := cell_reg_ ((ba.cell 1).trans (show (#[.string a, .slice A n c, .bool true] : Array Value)[1]? = some (.slice A n c) from rfl)) ba.lt
      have q2 := cell_reg_ ((ba.cell 2).trans (show (#[.string a, .slice A n c, .bool true] : Array Value)[2]? = some (.bool true) from rfl)) ba.lt
      have q3 := cell_reg_ ((bb.cell 0).trans (show (#[.string b, .slice A' n' c', .bool y] : Array Value)[0]? = some (.string b) from rfl)) bb.lt
      have q4 := cell_reg_ ((bb.cell 1).trans (show (#[.string b, .slice A' n' c', .bool y] : Array Value)[1]? = some (.slice A' n' c') from rfl)) bb.lt
      have q5 := cell_reg_ ((bb.cell 2).trans (show (#[.string b, .slice A' n' c', .bool y] : Array Value)[2]? = some (.bool y) from rfl)) bb.lt
      go_enter Tryz.func58, Tryz.ntmps58
      go_upto_region 3 with fail
      try rw [← hW]
      clear hW ka kb
      refine wp_region_grow_w [(17, setR W.heap.size L)] [17] 14 (storesT (w.heap.size + 2) W.heap.size ⟨a, L, (true && y)⟩) _
        (by kernel_rfl) (by kernel_rfl) rfl (by kernel_rfl) (by kernel_rfl) (by kernel_rfl) rfl rfl (by kernel_rfl) (by kernel_rfl) ⟨setR_stable _ _, trivial⟩ ?_
      repeat (first
        | (refine lexK_skip (by decide) rfl ?_; simp only [Act.put, List.setIfInBounds_toArray, List.set_cons_zero, List.set_cons_succ])
        | (refine lexK_quiet (by decide) rfl rfl rfl (fun K hK => ?_); unfold Reg; go_big_quiet_op; refine hK _ ?_; clear hK K)
        | (refine lexK_rel (by decide) rfl rfl (fun w' hb9 hK => ?_) (fun v w' hb9 hv => ?_)
           · unfold grows
             go_simp
             go_at_call 79
             refine (HN.out w' hb9).mono ?_
             rintro e w8 ⟨A8, n8, c8, rfl, h8, hb8⟩
             exact ⟨_, rfl, hb8, A8, n8, c8, rfl, h8.less (by have := hb9.size; omega)⟩
           obtain ⟨A3, n3, c3, rfl, hN3⟩ := hv
           simp only [Act.put, List.setIfInBounds_toArray, List.set_cons_zero, List.set_cons_succ])
        | (refine lexK_wr rfl rfl (fun w' hb9 hK => ?_) (fun v w' w'' hb9 hv => ?_)
           · obtain ⟨A4, n4, c4, e4, hN4⟩ := hK.at_ 17 rfl (slice_d _ _ _)
             have bk9 := bk.below hb9 bk.lt
             have k0 := bk9.cell 0
             have k1 := bk9.cell 1
             have k2 := bk9.cell 2
             have f0 := bk9.frozen 0
             have f1 := bk9.frozen 1
             have f2 := bk9.frozen 2
             unfold grows
             go_simp
             have e5 : Value.slice A3 n3 c3 = .slice A4 n4 c4 := e4
             injection e5 with e6 e7 e8
             subst e6 e7 e8
             exact ⟨_, _, _, hN4, rfl⟩
           simp only [Act.put]))
      refine lexK_nil (fun w9 w1 v hC9 hall hS _ => ?_)
      have hb9 := reg_iff.1 hC9
      obtain ⟨A5, n5, c5, hN5, rfl⟩ := hS
      clear hall q0 q1 q2 q3 q4 q5 HN HO
      have hbz := hb9.size
      have hsz := Hsz.out
      have hblk := stored_row (u := .string a) (v := .slice A5 n5 c5) (x := .bool (true && y)) (bk.below hb9 bk.lt) rfl
      go_wp2
      refine bodyPost_ret (results_cell_row rfl _ _ (w.heap.size + 2) 38 _ (0, 0) _ rfl hblk Tryz.underlying38 rfl rfl) rfl ?_
      exact ⟨A5, n5, c5, rfl, (three_new hN5 (by omega) _ _ _).less (by omega), three_b (hbW.trans (hb9.mono hbW.size)) (by omega) _ _ _⟩
  · rw [decide_eq_false g] at he
    have hne : (a.toList != b.toList) = true := by rw [bne, he]; rfl
    rw [if_neg g]
    clear g
    have ka := ba.cell 0
    have kb := bb.cell 0
    have k0 := bk.cell 0
    have k1 := bk.cell 1
    have k2 := bk.cell 2
    have f0 := bk.frozen 0
    have f1 := bk.frozen 1
    have f2 := bk.frozen 2
    go_enter Tryz.func58, Tryz.ntmps58
    go_upto_region 1 with fail
    try rw [← hW]
    clear hW
    go_wp2
    have hsz := Hsz.out
    have hblk := stored_row (u := .string ⟨#[]⟩) (v := .slice none 0 0) (x := .bool false) bk rfl
    refine bodyPost_ret (results_cell_row rfl _ _ (w.heap.size + 2) 38 _ (0, 0) _ rfl hblk Tryz.underlying38 rfl rfl) rfl ?_
    exact ⟨none, 0, 0, rfl, NewS.nil_ _ _, three_b hbW (by omega) _ _ _⟩
end Go.Proofs.YtllogmokadcfmaaGreat.Term
