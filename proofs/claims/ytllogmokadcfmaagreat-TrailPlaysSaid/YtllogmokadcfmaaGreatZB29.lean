/-
  Some texts of this claim, one behind the other: TermTold. What each proves, and its condition, stands at its head.
-/
import Derived.Test.YtllogmokadcfmaaGreatZB23
import Derived.Test.YtllogmokadcfmaaGreatZB28
import Derived.Test.YtllogmokadcfmaaGreatZB15
/-
  Contracts of term's Check, Full, Empty, Has, Same and Within, of the program and the document, and of the statements' Large: what each tells of terms. Condition: sets of at most 1,000,000,001 spans (the document's Within: 1,000), names of at most 1,000,000,000 bytes.
-/
namespace Go.Proofs.YtllogmokadcfmaaGreat.Term
open Go Go.RowKit Go.Lib Go.Proofs.YtllogmokadcfmaaGreat.Span Go.Proofs.YtllogmokadcfmaaGreat.Need Go.Proofs.YtllogmokadcfmaaGreat.Grow
open Go.Proofs.YtllogmokadcfmaaGreat.Label (runes fitL fit_any refFit_any)
set_option linter.unusedVariables false
theorem len_zero {A : Option Addr} {n : Nat} {l : List S} {w : World} (h : SpOn w A n l) : ((n : Int) == 0) = decide (l = []) := by
  have := h.len
  rw [Bool.eq_iff_iff, decide_eq_true_iff, beq_iff_eq, ← List.length_eq_zero_iff]
  omega
set_option maxHeartbeats 4000000 in
set_option maxRecDepth 100000 in
theorem checkT_any (nm : ByteArray) (s : List S) (z : Bool) (A : Option Addr) (n c : Nat) (w : World) (h : SpOn w A n s) (hnm : nm.size ≤ 9223372036854775807) (hn : n ≤ 1000000001) :
    Calls Tryz.prog 37 #[.agg #[.string nm, .slice A n c, .bool z]] w (Tells w (.bool (fitL (runes nm 0) && isSet (-1) s))) := by
  have HF := hide (fun (wx : World) => fit_any nm wx hnm)
  have HC := hide (fun (wx : World) (hb : Below w.heap.size w wx) => check_on (c := c) (h.on hb) hn)
  unfold Tells at HC ⊢
  generalize isSet (-1) s = b2 at *
  generalize fitL (runes nm 0) = b1 at *
  have hba := alloc_b (w := w) (.cells #[.string nm, .slice A n c, .bool z] 38)
  have bk := Blk.new w 38 #[.string nm, .slice A n c, .bool z]
  clear h hnm hn
  cases b1 with
  | false =>
    go_enter Tryz.func37, Tryz.ntmps37
    go_wp2_with (first
      | (go_at_call 31
         refine (HF.out _).mono ?_
         rintro e w1 ⟨rfl, hb1⟩
         have hbw := hba.trans (hb1.mono hba.size)))
    go_ret
    exact ⟨rfl, hbw⟩
  | true =>
    go_enter Tryz.func37, Tryz.ntmps37
    go_wp2_with (first
      | (go_at_call 68
         refine (HC.out _ hbw).mono ?_
         rintro e w2 ⟨rfl, hb2⟩
         have hbw2 := hbw.trans (hb2.mono hbw.size))
      | (go_at_call 31
         refine (HF.out _).mono ?_
         rintro e w1 ⟨rfl, hb1⟩
         have hbw := hba.trans (hb1.mono hba.size)
         have k1 := (bk.below hb1 bk.lt).cell 1))
    go_ret
    exact ⟨rfl, hbw2⟩
set_option maxHeartbeats 4000000 in
set_option maxRecDepth 100000 in
theorem refCheckT_any (nm : ByteArray) (s : List S) (z : Bool) (A : Option Addr) (n c : Nat) (w : World) (h : SpOn w A n s) (hnm : nm.size ≤ 1000000000) (hn : n ≤ 1000000001) :
    Calls Tryz.prog 25 #[.agg #[.string nm, .slice A n c, .bool z]] w (Tells w (.bool (fitL (runes nm 0) && isSet (-1) s))) := by
  have HF := hide (fun (wx : World) => refFit_any nm wx hnm)
  have HC := hide (fun (wx : World) (hb : Below w.heap.size w wx) => refCheck_on (c := c) (h.on hb) hn)
  unfold Tells at HC ⊢
  generalize isSet (-1) s = b2 at *
  generalize fitL (runes nm 0) = b1 at *
  have hba := alloc_b (w := w) (.cells #[.string nm, .slice A n c, .bool z] 38)
  have bk := Blk.new w 38 #[.string nm, .slice A n c, .bool z]
  clear h hnm hn
  cases b1 with
  | false =>
    go_enter Tryz.func25, Tryz.ntmps25
    go_wp2_with (first
      | (go_at_call 59
         refine (HF.out _).mono ?_
         rintro e w1 ⟨rfl, hb1⟩
         have hbw := hba.trans (hb1.mono hba.size)))
    go_ret
    exact ⟨rfl, hbw⟩
  | true =>
    go_enter Tryz.func25, Tryz.ntmps25
    go_wp2_with (first
      | (go_at_call 60
         refine (HC.out _ hbw).mono ?_
         rintro e w2 ⟨rfl, hb2⟩
         have hbw2 := hbw.trans (hb2.mono hbw.size))
      | (go_at_call 59
         refine (HF.out _).mono ?_
         rintro e w1 ⟨rfl, hb1⟩
         have hbw := hba.trans (hb1.mono hba.size)
         have k1 := (bk.below hb1 bk.lt).cell 1))
    go_ret
    exact ⟨rfl, hbw2⟩
set_option maxHeartbeats 4000000 in
set_option maxRecDepth 100000 in
theorem refFullT_any (nm : ByteArray) (s : List S) (z : Bool) (A : Option Addr) (n c : Nat) (w : World) (h : SpOn w A n s) (hn : n ≤ 1000000001) :
    Calls Tryz.prog 17 #[.agg #[.string nm, .slice A n c, .bool z]] w (Tells w (.bool (z && decide (s = allS)))) := by
  have HA := hide (fun (wx : World) => refAll_any wx)
  have HS := hide (fun (wx : World) (A' : Option Addr) (n' c' : Nat) (hb : Below w.heap.size w wx) (h' : SpOn wx A' n' [((0 : Int), (1000000000 : Int))]) => refSame_on (c := c) (c' := c') (h.on hb) h' hn (by have := h'.len; simp at this; omega))
  unfold Tells at HS ⊢
  show Calls _ _ _ _ fun e w' => e = .returned (.bool (z && decide (s = [((0 : Int), (1000000000 : Int))]))) ∧ Below w.heap.size w w'
  generalize decide (s = [((0 : Int), (1000000000 : Int))]) = b2 at *
  have hba := alloc_b (w := w) (.cells #[.string nm, .slice A n c, .bool z] 38)
  have bk := Blk.new w 38 #[.string nm, .slice A n c, .bool z]
  clear h hn
  obtain ⟨W, hW⟩ : ∃ W, W = w.alloc (.cells #[.string nm, .slice A n c, .bool z] 38) := ⟨_, rfl⟩
  rw [← hW] at hba bk
  have q0 := cell_reg_ ((bk.cell 2).trans (show (#[Value.string nm, .slice A n c, .bool z] : Array Value)[2]? = some (.bool z) from rfl)) bk.lt
  have q1 := cell_reg_ ((bk.cell 1).trans (show (#[Value.string nm, .slice A n c, .bool z] : Array Value)[1]? = some (.slice A n c) from rfl)) bk.lt
  clear bk
  cases z <;>
  · go_enter Tryz.func17, Tryz.ntmps17
    go_upto_region 1 with fail
    rw [← hW]
    clear hW
    refine wp_region_grow [(8, spR allS), (9, isC (.bool b2))] [8, 9]
      (by kernel_rfl) (by kernel_rfl) rfl (by kernel_rfl) (by kernel_rfl) ⟨spR_stable _, isC_stable _, trivial⟩ ?_
    repeat (first
      | (refine lex_skip rfl ?_; simp only [Act.put, List.setIfInBounds_toArray, List.set_cons_zero, List.set_cons_succ])
      | (refine lex_quiet rfl rfl rfl (fun K hK => ?_); unfold Reg; go_big_quiet_op; refine hK _ ?_; clear hK K)
      | (refine lex_rel rfl rfl (fun w' hb9 hK => ?_) (fun v w' hb9 hv => ?_)
         · unfold grows
           go_simp
           go_at_call 49
           refine (HA.out w').mono ?_
           rintro e w8 ⟨A8, n8, c8, rfl, h8, hb8⟩
           exact ⟨_, rfl, hb8, A8, n8, c8, rfl, h8⟩
         obtain ⟨Av, nv, cv, rfl, hv8⟩ := hv
         simp only [Act.put, List.setIfInBounds_toArray, List.set_cons_zero, List.set_cons_succ])
      | (refine lex_rel rfl rfl (fun w' hb9 hK => ?_) (fun v w' hb9 hv => ?_)
         · obtain ⟨B1, m1, d1, j1, hB1⟩ := hK.at_ 8 rfl rfl (slice_d _ _ _)
           have j1' : Value.slice Av nv cv = .slice B1 m1 d1 := j1
           injection j1' with x1 x2 x3
           rw [← x1, ← x2] at hB1
           clear j1 x1 x2 x3 hK
           unfold grows
           go_simp
           go_at_call 48
           exact call_isC (HS.out w' _ _ _ (hba.trans (hb9.mono hba.size)) hB1)
         obtain rfl := hv
         simp only [Act.put, List.setIfInBounds_toArray, List.set_cons_zero, List.set_cons_succ]))
    refine lex_nil (fun w9 hC9 _ => ?_)
    have hb9 := reg_iff.1 hC9
    clear hC9 q0 q1
    go_wp2
    go_ret
    exact ⟨rfl, hba.trans (hb9.mono hba.size)⟩
set_option maxHeartbeats 4000000 in
set_option maxRecDepth 100000 in
theorem emptyT_any (nm : ByteArray) (s : List S) (z : Bool) (A : Option Addr) (n c : Nat) (w : World) (h : SpOn w A n s) :
    Calls Tryz.prog 38 #[.agg #[.string nm, .slice A n c, .bool z]] w (Tells w (.bool (!z && decide (s = [])))) := by
  unfold Tells
  rw [← len_zero h]
  have hba := alloc_b (w := w) (.cells #[.string nm, .slice A n c, .bool z] 38)
  have bk := Blk.new w 38 #[.string nm, .slice A n c, .bool z]
  clear h bk
  cases z <;>
  · go_enter Tryz.func38, Tryz.ntmps38
    go_wp2
    go_ret
    exact ⟨rfl, hba⟩
set_option maxHeartbeats 4000000 in
set_option maxRecDepth 100000 in
theorem refEmptyT_any (nm : ByteArray) (s : List S) (z : Bool) (A : Option Addr) (n c : Nat) (w : World) (h : SpOn w A n s) :
    Calls Tryz.prog 26 #[.agg #[.string nm, .slice A n c, .bool z]] w (Tells w (.bool (!z && decide (s = [])))) := by
  unfold Tells
  rw [← len_zero h]
  have hba := alloc_b (w := w) (.cells #[.string nm, .slice A n c, .bool z] 38)
  have bk := Blk.new w 38 #[.string nm, .slice A n c, .bool z]
  clear h bk
  cases z <;>
  · go_enter Tryz.func26, Tryz.ntmps26
    go_wp2
    go_ret
    exact ⟨rfl, hba⟩
set_option maxHeartbeats 4000000 in
set_option maxRecDepth 100000 in
theorem hasT_any (nm : ByteArray) (s : List S) (z : Bool) (A : Option Addr) (n c : Nat) (w : World) (h : SpOn w A n s) (p : Int) (ch : Bool) (hn : n ≤ 1000000001) (hs : isSet (-1) s = true) :
    Calls Tryz.prog 34 #[.agg #[.string nm, .slice A n c, .bool z], .int .i64 p, .bool ch] w (Tells w (.bool (if ch = true then has s p else z))) := by
  have HH := hide (fun (wx : World) (hb : Below w.heap.size w wx) => has_on p (c := c) (h.on hb) hn)
  unfold Tells at HH ⊢
  generalize has s p = b2 at *
  have hba := alloc_b (w := w) (.cells #[.string nm, .slice A n c, .bool z] 38)
  have bk := Blk.new w 38 #[.string nm, .slice A n c, .bool z]
  clear h hn hs bk
  cases ch with
  | false =>
    go_enter Tryz.func34, Tryz.ntmps34
    go_wp2
    go_ret
    exact ⟨rfl, hba⟩
  | true =>
    go_enter Tryz.func34, Tryz.ntmps34
    go_wp2_with (first
      | (go_at_call 32
         refine (HH.out _ hba).mono ?_
         rintro e w1 ⟨rfl, hb1⟩
         have hbw := hba.trans (hb1.mono hba.size)))
    go_ret
    exact ⟨rfl, hbw⟩
set_option maxHeartbeats 4000000 in
set_option maxRecDepth 100000 in
theorem refHasT_any (nm : ByteArray) (s : List S) (z : Bool) (A : Option Addr) (n c : Nat) (w : World) (h : SpOn w A n s) (p : Int) (ch : Bool) (hn : n ≤ 1000000001) (hs : isSet (-1) s = true) :
    Calls Tryz.prog 62 #[.agg #[.string nm, .slice A n c, .bool z], .int .i64 p, .bool ch] w (Tells w (.bool (if ch = true then has s p else z))) := by
  have HH := hide (fun (wx : World) (hb : Below w.heap.size w wx) => refHas_on p (c := c) (h.on hb) hn hs)
  unfold Tells at HH ⊢
  generalize has s p = b2 at *
  have hba := alloc_b (w := w) (.cells #[.string nm, .slice A n c, .bool z] 38)
  have bk := Blk.new w 38 #[.string nm, .slice A n c, .bool z]
  clear h hn hs bk
  cases ch with
  | false =>
    go_enter Tryz.func62, Tryz.ntmps62
    go_wp2
    go_ret
    exact ⟨rfl, hba⟩
  | true =>
    go_enter Tryz.func62, Tryz.ntmps62
    go_wp2_with (first
      | (go_at_call 82
         refine (HH.out _ hba).mono ?_
         rintro e w1 ⟨rfl, hb1⟩
         have hbw := hba.trans (hb1.mono hba.size)))
    go_ret
    exact ⟨rfl, hbw⟩
set_option maxHeartbeats 8000000 in
set_option maxRecDepth 100000 in
theorem refSameT_any (a b : ByteArray) (s t : List S) (x y : Bool) (A A' : Option Addr) (n c n' c' : Nat) (w : World) (h : SpOn w A n s) (h' : SpOn w A' n' t) (hn : n ≤ 1000000001) (hn' : n' ≤ 1000000001) :
    Calls Tryz.prog 21 #[.agg #[.string a, .slice A n c, .bool x], .agg #[.string b, .slice A' n' c', .bool y]] w (Tells w (.bool (decide (a = b) && (x == y && decide (s = t))))) := by
  have HS := hide (fun (wx : World) (hb : Below w.heap.size w wx) => refSame_on (c := c) (c' := c') (h.on hb) (h'.on hb) hn hn')
  unfold Tells at HS ⊢
  have eq := eq_names a b
  generalize decide (a = b) = b1 at *
  generalize decide (s = t) = b2 at *
  have hba := ((Below.refl w.heap.size w).alloc (Nat.le_refl _) (.cells #[.string a, .slice A n c, .bool x] 38)).alloc (by simp) (.cells #[.string b, .slice A' n' c', .bool y] 38)
  clear h h'
  cases b1 <;> cases x <;> cases y <;>
  · skip
    go_enter Tryz.func21, Tryz.ntmps21
    go_wp2_with (first
      | (go_at_call 48
         refine (HS.out _ ?_).mono ?_
         · exact ((Below.refl _ _).alloc (Nat.le_refl _) _).alloc (by simp) _
         rintro e w1 ⟨rfl, hb1⟩
         have hbw := hba.trans (hb1.mono hba.size)))
    go_ret
    first | exact ⟨rfl, hba⟩ | exact ⟨by simp, hbw⟩ | exact ⟨by simp, hba⟩
set_option maxHeartbeats 8000000 in
set_option maxRecDepth 100000 in
theorem withinT_any (a b : ByteArray) (s t : List S) (x y : Bool) (A A' : Option Addr) (n c n' c' : Nat) (w : World) (h : SpOn w A n s) (h' : SpOn w A' n' t) (hs : isSet (-1) s = true) (ht : isSet (-1) t = true) :
    Calls Tryz.prog 40 #[.agg #[.string a, .slice A n c, .bool x], .agg #[.string b, .slice A' n' c', .bool y]] w (Tells w (.bool (decide (a = b) && (decide (lessS s t = []) && (y || !x))))) := by
  have HS := hide (fun (wx : World) (hb : Below w.heap.size w wx) => within_on (c := c) (c' := c') (h.on hb) (h'.on hb) hs ht)
  unfold Tells at HS ⊢
  have eq := eq_names a b
  generalize decide (a = b) = b1 at *
  generalize decide (lessS s t = []) = b2 at *
  have hba := ((Below.refl w.heap.size w).alloc (Nat.le_refl _) (.cells #[.string a, .slice A n c, .bool x] 38)).alloc (by simp) (.cells #[.string b, .slice A' n' c', .bool y] 38)
  clear h h'
  cases b1 <;> cases x <;> cases y <;>
  · skip
    go_enter Tryz.func40, Tryz.ntmps40
    go_wp2_with (first
      | (go_at_call 72
         refine (HS.out _ ?_).mono ?_
         · exact ((Below.refl _ _).alloc (Nat.le_refl _) _).alloc (by simp) _
         rintro e w1 ⟨rfl, hb1⟩
         have hbw := hba.trans (hb1.mono hba.size)))
    go_ret
    first | exact ⟨rfl, hba⟩ | exact ⟨by simp, hbw⟩ | exact ⟨by simp, hba⟩
set_option maxHeartbeats 8000000 in
set_option maxRecDepth 100000 in
theorem refWithinT_any (a b : ByteArray) (s t : List S) (x y : Bool) (A A' : Option Addr) (n c n' c' : Nat) (w : World) (h : SpOn w A n s) (h' : SpOn w A' n' t) (hn : n ≤ 10000) (hn' : n' ≤ 10000) (hs : isSet (-1) s = true) :
    Calls Tryz.prog 54 #[.agg #[.string a, .slice A n c, .bool x], .agg #[.string b, .slice A' n' c', .bool y]] w (Tells w (.bool (decide (a = b) && (decide (lessS s t = []) && (y || !x))))) := by
  have HS := hide (fun (wx : World) (hb : Below w.heap.size w wx) => refWithin_on (c := c) (c' := c') (h.on hb) (h'.on hb) hn hn' hs)
  unfold Tells at HS ⊢
  have eq := eq_names a b
  generalize decide (a = b) = b1 at *
  generalize decide (lessS s t = []) = b2 at *
  have hba := ((Below.refl w.heap.size w).alloc (Nat.le_refl _) (.cells #[.string a, .slice A n c, .bool x] 38)).alloc (by simp) (.cells #[.string b, .slice A' n' c', .bool y] 38)
  clear h h'
  have ba := (Blk.new w 38 #[.string a, .slice A n c, .bool x]).alloc (.cells #[.string b, .slice A' n' c', .bool y] 38)
  have bb := Blk.new (w.alloc (.cells #[.string a, .slice A n c, .bool x] 38)) 38 #[.string b, .slice A' n' c', .bool y]
  rw [World.size_alloc] at bb
  cases b1 <;> cases x <;> cases y <;> cases b2 <;>
  · skip
    go_enter Tryz.func54, Tryz.ntmps54
    go_wp2_with (first
      | (go_at_call 78
         refine (HS.out _ ?_).mono ?_
         · exact ((Below.refl _ _).alloc (Nat.le_refl _) _).alloc (by simp) _
         rintro e w1 ⟨rfl, hb1⟩
         have hbw := hba.trans (hb1.mono hba.size)
         have ka2 := (ba.below hb1 ba.lt).cell 2
         have kb2 := (bb.below hb1 bb.lt).cell 2))
    go_ret
    first | exact ⟨rfl, hba⟩ | exact ⟨by simp, hbw⟩ | exact ⟨by simp, hba⟩
def largeT (t : Tm) : Bool := decide (60 < t.set.length) || decide (200 < t.name.size)
set_option maxHeartbeats 4000000 in
set_option maxRecDepth 100000 in
theorem largeT_any (nm : ByteArray) (s : List S) (z : Bool) (A : Option Addr) (n c : Nat) (w : World) (h : SpOn w A n s) (hn : n ≤ 9223372036854775807) (hnm : nm.size ≤ 9223372036854775807) :
    Calls Tryz.prog 24 #[.agg #[.string nm, .slice A n c, .bool z]] w (Tells w (.bool (largeT ⟨nm, s, z⟩))) := by
  unfold Tells largeT
  simp only [← h.len]
  have hba := alloc_b (w := w) (.cells #[.string nm, .slice A n c, .bool z] 38)
  have bk := Blk.new w 38 #[.string nm, .slice A n c, .bool z]
  clear h bk
  by_cases h1 : 60 < n
  · have h1z : (60 : Int) < (n : Int) := by omega
    rw [decide_eq_true h1]
    go_enter Tryz.func24, Tryz.ntmps24
    go_wp2
    go_ret
    exact ⟨rfl, hba⟩
  · have h1z : ¬ (60 : Int) < (n : Int) := by omega
    rw [decide_eq_false h1]
    by_cases h2 : 200 < nm.size
    · have h2z : (200 : Int) < (nm.size : Int) := by omega
      rw [decide_eq_true h2]
      go_enter Tryz.func24, Tryz.ntmps24
      go_wp2
      go_ret
      exact ⟨rfl, hba⟩
    · have h2z : ¬ (200 : Int) < (nm.size : Int) := by omega
      rw [decide_eq_false h2]
      go_enter Tryz.func24, Tryz.ntmps24
      go_wp2
      go_ret
      exact ⟨rfl, hba⟩
end Go.Proofs.YtllogmokadcfmaaGreat.Term
