/-
  Some texts of this claim, one behind the other: TermTold. What each proves, and its condition, stands at its head.
-/
import Derived.Test.YtllogmokadcfmaaZA23
import Derived.Test.YtllogmokadcfmaaZA28
import Derived.Test.YtllogmokadcfmaaZA15
import Derived.Test.YtllogmokadcfmaaZA14
/-
  Contracts of term's Check, Full, Empty, Has, Same and Within, of the program and the document, and of the statements' Large: what each tells of terms. Condition: sets of at most 1,000,000,001 spans (the document's Within: 1,000), names of at most 1,000,000,000 bytes.
-/
namespace Go.Proofs.Ytllogmokadcfmaa.Term
open Go Go.RowKit Go.Lib Go.Proofs.Ytllogmokadcfmaa.Span Go.Proofs.Ytllogmokadcfmaa.Need Go.Proofs.Ytllogmokadcfmaa.Grow
open Go.Proofs.Ytllogmokadcfmaa.Label (runes fitL fit_any)
set_option linter.unusedVariables false
theorem len_zero {A : Option Addr} {n : Nat} {l : List S} {w : World} (h : SpOn w A n l) : ((n : Int) == 0) = decide (l = []) := by
  have := h.len
  rw [Bool.eq_iff_iff, decide_eq_true_iff, beq_iff_eq, ← List.length_eq_zero_iff]
  omega
set_option maxHeartbeats 4000000 in
set_option maxRecDepth 100000 in
theorem checkT_any (nm : ByteArray) (s : List S) (z : Bool) (A : Option Addr) (n c : Nat) (w : World) (h : SpOn w A n s) (hnm : nm.size ≤ 9223372036854775807) (hn : n ≤ 1000000001) :
    Calls Try.prog 25 #[.agg #[.string nm, .slice A n c, .bool z]] w (Tells w (.bool (fitL (runes nm 0) && isSet (-1) s))) := by
  have HF := hide (fun (wx : World) => fit_any nm wx hnm)
  have HC := hide (fun (wx : World) (hb : Below w.heap.size w wx) => check_on (c := c) (h.on hb) hn)
  unfold Tells at HC ⊢
  generalize isSet (-1) s = b2 at *
  generalize fitL (runes nm 0) = b1 at *
  have hba := alloc_b (w := w) (.cells #[.string nm, .slice A n c, .bool z] 29)
  have bk := Blk.new w 29 #[.string nm, .slice A n c, .bool z]
  clear h hnm hn
  cases b1 with
  | false =>
    go_enter Try.func25, Try.ntmps25
    go_wp2_with (first
      | (go_at_call 19
         refine (HF.out _).mono ?_
         rintro e w1 ⟨rfl, hb1⟩
         have hbw := hba.trans (hb1.mono hba.size)))
    go_ret
    exact ⟨rfl, hbw⟩
  | true =>
    go_enter Try.func25, Try.ntmps25
    go_wp2_with (first
      | (go_at_call 39
         refine (HC.out _ hbw).mono ?_
         rintro e w2 ⟨rfl, hb2⟩
         have hbw2 := hbw.trans (hb2.mono hbw.size))
      | (go_at_call 19
         refine (HF.out _).mono ?_
         rintro e w1 ⟨rfl, hb1⟩
         have hbw := hba.trans (hb1.mono hba.size)
         have k1 := (bk.below hb1 bk.lt).cell 1))
    go_ret
    exact ⟨rfl, hbw2⟩
set_option maxHeartbeats 4000000 in
set_option maxRecDepth 100000 in
theorem emptyT_any (nm : ByteArray) (s : List S) (z : Bool) (A : Option Addr) (n c : Nat) (w : World) (h : SpOn w A n s) :
    Calls Try.prog 26 #[.agg #[.string nm, .slice A n c, .bool z]] w (Tells w (.bool (!z && decide (s = [])))) := by
  unfold Tells
  rw [← len_zero h]
  have hba := alloc_b (w := w) (.cells #[.string nm, .slice A n c, .bool z] 29)
  have bk := Blk.new w 29 #[.string nm, .slice A n c, .bool z]
  clear h bk
  cases z <;>
  · go_enter Try.func26, Try.ntmps26
    go_wp2
    go_ret
    exact ⟨rfl, hba⟩
set_option maxHeartbeats 4000000 in
set_option maxRecDepth 100000 in
theorem refEmptyT_any (nm : ByteArray) (s : List S) (z : Bool) (A : Option Addr) (n c : Nat) (w : World) (h : SpOn w A n s) :
    Calls Try.prog 12 #[.agg #[.string nm, .slice A n c, .bool z]] w (Tells w (.bool (!z && decide (s = [])))) := by
  unfold Tells
  rw [← len_zero h]
  have hba := alloc_b (w := w) (.cells #[.string nm, .slice A n c, .bool z] 29)
  have bk := Blk.new w 29 #[.string nm, .slice A n c, .bool z]
  clear h bk
  cases z <;>
  · go_enter Try.func12, Try.ntmps12
    go_wp2
    go_ret
    exact ⟨rfl, hba⟩
set_option maxHeartbeats 4000000 in
set_option maxRecDepth 100000 in
theorem hasT_any (nm : ByteArray) (s : List S) (z : Bool) (A : Option Addr) (n c : Nat) (w : World) (h : SpOn w A n s) (p : Int) (ch : Bool) (hn : n ≤ 1000000001) (hs : isSet (-1) s = true) :
    Calls Try.prog 22 #[.agg #[.string nm, .slice A n c, .bool z], .int .i64 p, .bool ch] w (Tells w (.bool (if ch = true then has s p else z))) := by
  have HH := hide (fun (wx : World) (hb : Below w.heap.size w wx) => has_on p (c := c) (h.on hb) hn)
  unfold Tells at HH ⊢
  generalize has s p = b2 at *
  have hba := alloc_b (w := w) (.cells #[.string nm, .slice A n c, .bool z] 29)
  have bk := Blk.new w 29 #[.string nm, .slice A n c, .bool z]
  clear h hn hs bk
  cases ch with
  | false =>
    go_enter Try.func22, Try.ntmps22
    go_wp2
    go_ret
    exact ⟨rfl, hba⟩
  | true =>
    go_enter Try.func22, Try.ntmps22
    go_wp2_with (first
      | (go_at_call 20
         refine (HH.out _ hba).mono ?_
         rintro e w1 ⟨rfl, hb1⟩
         have hbw := hba.trans (hb1.mono hba.size)))
    go_ret
    exact ⟨rfl, hbw⟩
set_option maxHeartbeats 8000000 in
set_option maxRecDepth 100000 in
theorem refSameT_any (a b : ByteArray) (s t : List S) (x y : Bool) (A A' : Option Addr) (n c n' c' : Nat) (w : World) (h : SpOn w A n s) (h' : SpOn w A' n' t) (hn : n ≤ 1000000001) (hn' : n' ≤ 1000000001) :
    Calls Try.prog 14 #[.agg #[.string a, .slice A n c, .bool x], .agg #[.string b, .slice A' n' c', .bool y]] w (Tells w (.bool (decide (a = b) && (x == y && decide (s = t))))) := by
  have HS := hide (fun (wx : World) (hb : Below w.heap.size w wx) => refSame_on (c := c) (c' := c') (h.on hb) (h'.on hb) hn hn')
  unfold Tells at HS ⊢
  have eq := eq_names a b
  generalize decide (a = b) = b1 at *
  generalize decide (s = t) = b2 at *
  have hba := ((Below.refl w.heap.size w).alloc (Nat.le_refl _) (.cells #[.string a, .slice A n c, .bool x] 29)).alloc (by simp) (.cells #[.string b, .slice A' n' c', .bool y] 29)
  clear h h'
  cases b1 <;> cases x <;> cases y <;>
  · skip
    go_enter Try.func14, Try.ntmps14
    go_wp2_with (first
      | (go_at_call 31
         refine (HS.out _ ?_).mono ?_
         · exact ((Below.refl _ _).alloc (Nat.le_refl _) _).alloc (by simp) _
         rintro e w1 ⟨rfl, hb1⟩
         have hbw := hba.trans (hb1.mono hba.size)))
    go_ret
    first | exact ⟨rfl, hba⟩ | exact ⟨by simp, hbw⟩ | exact ⟨by simp, hba⟩
set_option maxHeartbeats 8000000 in
set_option maxRecDepth 100000 in
theorem withinT_any (a b : ByteArray) (s t : List S) (x y : Bool) (A A' : Option Addr) (n c n' c' : Nat) (w : World) (h : SpOn w A n s) (h' : SpOn w A' n' t) (hs : isSet (-1) s = true) (ht : isSet (-1) t = true) :
    Calls Try.prog 28 #[.agg #[.string a, .slice A n c, .bool x], .agg #[.string b, .slice A' n' c', .bool y]] w (Tells w (.bool (decide (a = b) && (decide (lessS s t = []) && (y || !x))))) := by
  have HS := hide (fun (wx : World) (hb : Below w.heap.size w wx) => within_on (c := c) (c' := c') (h.on hb) (h'.on hb) hs ht)
  unfold Tells at HS ⊢
  have eq := eq_names a b
  generalize decide (a = b) = b1 at *
  generalize decide (lessS s t = []) = b2 at *
  have hba := ((Below.refl w.heap.size w).alloc (Nat.le_refl _) (.cells #[.string a, .slice A n c, .bool x] 29)).alloc (by simp) (.cells #[.string b, .slice A' n' c', .bool y] 29)
  clear h h'
  cases b1 <;> cases x <;> cases y <;>
  · skip
    go_enter Try.func28, Try.ntmps28
    go_wp2_with (first
      | (go_at_call 43
         refine (HS.out _ ?_).mono ?_
         · exact ((Below.refl _ _).alloc (Nat.le_refl _) _).alloc (by simp) _
         rintro e w1 ⟨rfl, hb1⟩
         have hbw := hba.trans (hb1.mono hba.size)))
    go_ret
    first | exact ⟨rfl, hba⟩ | exact ⟨by simp, hbw⟩ | exact ⟨by simp, hba⟩
set_option maxHeartbeats 8000000 in
set_option maxRecDepth 100000 in
theorem refWithinT_any (a b : ByteArray) (s t : List S) (x y : Bool) (A A' : Option Addr) (n c n' c' : Nat) (w : World) (h : SpOn w A n s) (h' : SpOn w A' n' t) (hn : n ≤ 10000) (hn' : n' ≤ 10000) (hs : isSet (-1) s = true) :
    Calls Try.prog 11 #[.agg #[.string a, .slice A n c, .bool x], .agg #[.string b, .slice A' n' c', .bool y]] w (Tells w (.bool (decide (a = b) && (decide (lessS s t = []) && (y || !x))))) := by
  have HS := hide (fun (wx : World) (hb : Below w.heap.size w wx) => refWithin_on (c := c) (c' := c') (h.on hb) (h'.on hb) hn hn' hs)
  unfold Tells at HS ⊢
  have eq := eq_names a b
  generalize decide (a = b) = b1 at *
  generalize decide (lessS s t = []) = b2 at *
  have hba := ((Below.refl w.heap.size w).alloc (Nat.le_refl _) (.cells #[.string a, .slice A n c, .bool x] 29)).alloc (by simp) (.cells #[.string b, .slice A' n' c', .bool y] 29)
  clear h h'
  have ba := (Blk.new w 29 #[.string a, .slice A n c, .bool x]).alloc (.cells #[.string b, .slice A' n' c', .bool y] 29)
  have bb := Blk.new (w.alloc (.cells #[.string a, .slice A n c, .bool x] 29)) 29 #[.string b, .slice A' n' c', .bool y]
  rw [World.size_alloc] at bb
  cases b1 <;> cases x <;> cases y <;> cases b2 <;>
  · skip
    go_enter Try.func11, Try.ntmps11
    go_wp2_with (first
      | (go_at_call 29
         refine (HS.out _ ?_).mono ?_
         · exact ((Below.refl _ _).alloc (Nat.le_refl _) _).alloc (by simp) _
         rintro e w1 ⟨rfl, hb1⟩
         have hbw := hba.trans (hb1.mono hba.size)
         have ka2 := (ba.below hb1 ba.lt).cell 2
         have kb2 := (bb.below hb1 bb.lt).cell 2))
    go_ret
    first | exact ⟨rfl, hba⟩ | exact ⟨by simp, hbw⟩ | exact ⟨by simp, hba⟩
def largeT (t : Tm) : Bool := decide (60 < t.set.length) || decide (200 < t.name.size)
set_option maxHeartbeats 4000000 in
set_option maxRecDepth 100000 in
theorem largeT_any (nm : ByteArray) (s : List S) (z : Bool) (A : Option Addr) (n c : Nat) (w : World) (h : SpOn w A n s) (hn : n ≤ 9223372036854775807) (hnm : nm.size ≤ 9223372036854775807) :
    Calls Try.prog 15 #[.agg #[.string nm, .slice A n c, .bool z]] w (Tells w (.bool (largeT ⟨nm, s, z⟩))) := by
  unfold Tells largeT
  simp only [← h.len]
  have hba := alloc_b (w := w) (.cells #[.string nm, .slice A n c, .bool z] 29)
  have bk := Blk.new w 29 #[.string nm, .slice A n c, .bool z]
  clear h bk
  by_cases h1 : 60 < n
  · have h1z : (60 : Int) < (n : Int) := by omega
    rw [decide_eq_true h1]
    go_enter Try.func15, Try.ntmps15
    go_wp2
    go_ret
    exact ⟨rfl, hba⟩
  · have h1z : ¬ (60 : Int) < (n : Int) := by omega
    rw [decide_eq_false h1]
    by_cases h2 : 200 < nm.size
    · have h2z : (200 : Int) < (nm.size : Int) := by omega
      rw [decide_eq_true h2]
      go_enter Try.func15, Try.ntmps15
      go_wp2
      go_ret
      exact ⟨rfl, hba⟩
    · have h2z : ¬ (200 : Int) < (nm.size : Int) := by omega
      rw [decide_eq_false h2]
      go_enter Try.func15, Try.ntmps15
      go_wp2
      go_ret
      exact ⟨rfl, hba⟩
end Go.Proofs.Ytllogmokadcfmaa.Term
