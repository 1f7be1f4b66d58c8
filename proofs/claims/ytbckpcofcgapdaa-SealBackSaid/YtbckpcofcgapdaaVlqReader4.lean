/-
  The contract of the program's Str, over a reader. No condition beyond the reader's own.
-/
import Derived.Test.YtbckpcofcgapdaaVlqReader3
namespace Go.Proofs.Ytbckpcofcgapdaa.Vlq
open Go.RowKit
set_option linter.unusedVariables false
theorem wpList_str {P : Program} {w : World} {ops : Array Oper} {rest : List Oper} {o : Oper} {a : Act} {Q : Exit → Act → World → Prop} (hgd : o.guard = none) (x : Operand) (src dst e : TypeId)
    (ho : o.op = .convert src dst x) (hs : P.underlying src = some (.slice e)) (he : P.underlying e = some (.int .u8)) (hd : P.underlying dst = some .string)
    (B n c : Nat) (A : Option Addr) (l : List UInt8) (hx : a.eval x = .slice A n c) (h : Reads w B 1 A n (bcs l))
    (hK : wpList P ops Q rest (a.put o.dst (.string (str l))) w) : wpList P ops Q (o :: rest) a w := by
  refine wpList_plain hgd fun K hK' => ?_
  have hrun := run_str (P := P) w src dst e c hs he hd h
  unfold Oper.wp
  simp [execOp, ho, hx, hrun, Result.andThen]
  exact hK' _ _ hK
theorem wpList_conv {P : Program} {w : World} {ops : Array Oper} {rest : List Oper} {a : Act} {Q : Exit → Act → World → Prop} (d : Nat) (x : Operand) (src dst e : TypeId) {ty : TypeId} {pos : String} {after : Array Edge}
    (hs : P.underlying src = some (.slice e)) (he : P.underlying e = some (.int .u8)) (hd : P.underlying dst = some .string)
    (B : Nat) (l : List UInt8) {n c : Nat} {A : Option Addr} (hx : a.eval x = .slice A n c) (h : Reads w B 1 A n (bcs l))
    (hK : wpList P ops Q rest (a.put (some d) (.string (str l))) w) : wpList P ops Q (⟨some d, .convert src dst x, ty, pos, after, none⟩ :: rest) a w :=
  wpList_str rfl x src dst e rfl hs he hd B n c A l hx h hK
theorem wd_pos (l : List UInt8) (i : Nat) (h : (wd l i).2 = 0) : 0 < (wd l i).1 := by
  induction l generalizing i with
  | nil => simp [wd] at h
  | cons c r ih =>
    unfold wd at h ⊢
    split
    · simp
    · rename_i h1
      rw [if_neg h1] at h
      split
      · rename_i h2; rw [if_pos h2] at h; simp at h
      · rename_i h2; rw [if_neg h2] at h; exact ih _ h
theorem width_pos (l : List UInt8) (h : (width l).2 = 0) : 0 < (width l).1 := by
  cases l with
  | nil => simp [width] at h
  | cons c r =>
    simp only [width] at h ⊢
    split
    · rename_i h1; rw [if_pos h1] at h; simp at h
    · rename_i h1; rw [if_neg h1] at h; exact wd_pos _ _ h
theorem look_pos (l : List UInt8) (most : Int) (h : (look l most).2.2 = 0) : 0 < (look l most).2.1 := by
  unfold look at h ⊢
  split
  · rename_i h1; rw [if_pos h1] at h; exact absurd h h1
  · rename_i h1
    rw [if_neg h1] at h
    split
    · rename_i h2; rw [if_pos h2] at h; simp at h
    · simp only; exact width_pos l (by omega)
def strR (l : List UInt8) (i : Nat) (er most : Int) : List UInt8 × Nat × Int :=
  if er ≠ 0 then ([], i, er)
  else if (look (l.drop i) most).2.2 ≠ 0 then ([], i, (look (l.drop i) most).2.2)
  else if l.length - i - (look (l.drop i) most).2.1 < (look (l.drop i) most).1 then ([], i, 2)
  else ((l.drop (i + (look (l.drop i) most).2.1)).take (look (l.drop i) most).1, i + ((look (l.drop i) most).2.1 + (look (l.drop i) most).1), 0)
set_option maxHeartbeats 1600000 in
set_option maxRecDepth 100000 in
theorem str_ok (g : Nat) (l : List UInt8) (i : Nat) (most : Int) (w : World) (A : Option Addr) (q1 q2 x y : Nat) (hc0 : w.cell? ⟨g, 0, none⟩ = some (.slice A (i + (q2 + (q1 + x))) (i + (q2 + (q1 + (x + y)))))) (hc1 : w.cell? ⟨g, 1, none⟩ = some (.int .i64 (i : Int)))
   (hc2 : w.cell? ⟨g, 2, none⟩ = some (.int .i64 0)) (hf1 : w.frozen? ⟨g, 1, none⟩ = false) (hlen : l.length = i + (q2 + (q1 + x))) (hl : i + (q2 + (q1 + x)) ≤ 1099511627776) (h : RdV w g l i 0)
   (hrc : Reads w g 1 (Option.map (fun x => x.add i) A) (q2 + (q1 + x)) (bcs (l.drop i))) (hq : (q1, q2, (0 : Int)) = look (l.drop i) most) (hpos : 0 < q2)
   (Hc : Hid (strR l i 0 most = ((l.drop (i + q2)).take q1, i + (q2 + q1), 0)))
   (hr3 : Reads w g 1 (if q1 + (x + y) = 0 then Option.map (fun x => x.add i) A else Option.map ((fun x => x.add q2) ∘ fun x => x.add i) A) q1 (bcs ((l.drop (i + q2)).take q1))) :
   Calls Try.prog 13 #[.pointer (some ⟨g, 0, none⟩), .int .i64 most] w fun e w' => e = .returned (.string (str (strR l i 0 most).1)) ∧ RdV w' g l (strR l i 0 most).2.1 (strR l i 0 most).2.2 ∧ w.grownBy w' (some g) := by
  have Hq := hide hq
  have Hlen := hide hlen
  clear hq hlen
  by_cases h0 : q1 + (x + y) = 0
  · rw [if_pos h0] at hr3
    obtain ⟨rfl, rfl, rfl⟩ : q1 = 0 ∧ x = 0 ∧ y = 0 := by omega
    clear h0
    have hcv : ∀ (n : Nat) (z : Value), (convert 22 9 (.slice (Option.map (fun x => x.add i) A) 0 0)).run Try.prog ((w.drewN n).setCell ⟨g, 1, none⟩ z) = .ok (.string (str ((l.drop (i + q2)).take 0))) ((w.drewN n).setCell ⟨g, 1, none⟩ z) :=
      fun n z => run_str _ _ _ _ _ Try.underlying22 Try.underlying5 Try.underlying9 ((hr3.drewN n).setCell (p := ⟨g, 1, none⟩) (Nat.le_refl _) z)
    go_enter Try.func13, Try.ntmps13
    go_wp2_with (first
      | (go_at_call 27
         refine (err_any g l i 0 _ h).mono ?_
         rintro e w1 ⟨rfl, rfl⟩))
    go_quiet (fail)
    go_wp2_with (first
      | (go_at_call 28
         refine (number_q _ _ _ (l.drop i) most _ g (by omega) (by omega) (hrc.drewN _) 0 q2 _ Hq.out).mono ?_
         rintro e w1 ⟨rfl, rfl⟩))
    go_ret
    refine ⟨by rw [Hc.out]; rfl, ?_, only_setCell (only_drewN (only_self _ _) _) (.inl rfl) _⟩
    rw [Hc.out]
    exact (h.drewN _).setAt (i + (q2 + 0)) (by have := Hlen.out; omega)
  · rw [if_neg h0] at hr3
    have hp : 0 < q1 + (x + y) := by omega
    clear h0
    have hcv : ∀ (n : Nat) (z : Value), (convert 22 9 (.slice (Option.map ((fun x => x.add q2) ∘ fun x => x.add i) A) q1 (q1 + (x + y)))).run Try.prog ((w.drewN n).setCell ⟨g, 1, none⟩ z) = .ok (.string (str ((l.drop (i + q2)).take q1))) ((w.drewN n).setCell ⟨g, 1, none⟩ z) :=
      fun n z => run_str _ _ _ _ _ Try.underlying22 Try.underlying5 Try.underlying9 ((hr3.drewN n).setCell (p := ⟨g, 1, none⟩) (Nat.le_refl _) z)
    go_enter Try.func13, Try.ntmps13
    go_wp2_with (first
      | (go_at_call 27
         refine (err_any g l i 0 _ h).mono ?_
         rintro e w1 ⟨rfl, rfl⟩))
    go_quiet (fail)
    go_wp2_with (first
      | (go_at_call 28
         refine (number_q _ _ _ (l.drop i) most _ g (by omega) (by omega) (hrc.drewN _) q1 q2 _ Hq.out).mono ?_
         rintro e w1 ⟨rfl, rfl⟩))
    go_ret
    refine ⟨by rw [Hc.out]; rfl, ?_, only_setCell (only_drewN (only_self _ _) _) (.inl rfl) _⟩
    rw [Hc.out]
    exact (h.drewN _).setAt (i + (q2 + q1)) (by have := Hlen.out; omega)
set_option maxHeartbeats 1600000 in
set_option maxRecDepth 100000 in
theorem str_any (g : Nat) (l : List UInt8) (i : Nat) (er most : Int) (w : World) (h : RdV w g l i er) :
   Calls Try.prog 13 #[.pointer (some ⟨g, 0, none⟩), .int .i64 most] w fun e w' => e = .returned (.string (str (strR l i er most).1)) ∧ RdV w' g l (strR l i er most).2.1 (strR l i er most).2.2 ∧ w.grownBy w' (some g) := by
  obtain ⟨A, c, hc0, hc1, hc2, hf1, hf2, hr, hi, hlc, hl⟩ := h.cells
  by_cases he : er = 0
  · subst he
    have hrc := hr.cut (cap := c) hi hlc
    rw [Nat.mul_one, bcs_drop] at hrc
    obtain ⟨q1, q2, q3, Hq⟩ : ∃ q1 q2 q3, Hid ((q1, q2, q3) = look (l.drop i) most) := ⟨_, _, _, hide rfl⟩
    have hql := look_le (l.drop i) most
    have Hc := hide (show strR l i 0 most = if q3 ≠ 0 then ([], i, q3) else if l.length - i - q2 < q1 then ([], i, 2) else ((l.drop (i + q2)).take q1, i + (q2 + q1), 0) from by simp [strR, ← Hq.out])
    rw [← Hq.out, List.length_drop] at hql
    obtain ⟨hq1, hq2, hq3, hq4⟩ := hql
    simp only at hq1 hq2 hq4
    clear hq3
    by_cases hq0 : q3 = 0
    · subst hq0
      clear hq4
      rw [if_neg (by simp)] at Hc
      by_cases hci : c = i
      · exfalso
        have h1 := Hq.out
        rw [show l.drop i = [] from List.drop_of_length_le (by omega)] at h1
        simp [look, width] at h1
      · rw [if_neg hci] at hrc
        by_cases hlong : l.length - i - q2 < q1
        · rw [if_pos hlong] at Hc
          have hlb : (l.length : Int) - i - q2 < (q1 : Int) := by omega
          go_enter Try.func13, Try.ntmps13
          go_wp2_with (first
            | (go_at_call 27
               refine (err_any g l i 0 _ h).mono ?_
               rintro e w1 ⟨rfl, rfl⟩))
          go_quiet (fail)
          go_wp2_with (first
            | (go_at_call 28
               refine (number_q _ _ _ (l.drop i) most _ g (by omega) (by omega) (hrc.drewN _) q1 q2 _ Hq.out).mono ?_
               rintro e w1 ⟨rfl, rfl⟩))
          go_ret
          refine ⟨by rw [Hc.out]; rfl, ?_, only_setCell (only_drewN (only_self _ _) _) (.inl rfl) _⟩
          rw [Hc.out]
          exact (h.drewN _).setErr 2
        · rw [if_neg hlong] at Hc
          have hlb : ¬ ((l.length : Int) - i - q2 < (q1 : Int)) := by omega
          have hr3 := (hrc.cut (k := q2) (cap := c - i) hq1 (by omega)).take (k := q1) (by omega)
          rw [Nat.mul_one, bcs_drop, bcs_take, List.drop_drop, Option.map_map] at hr3
          have hpos : 0 < q2 := by
            have := look_pos (l.drop i) most (by rw [← Hq.out])
            rw [← Hq.out] at this
            exact this
          obtain ⟨x, hx⟩ : ∃ x, l.length = i + (q2 + (q1 + x)) := ⟨l.length - i - q2 - q1, by omega⟩
          obtain ⟨y, rfl⟩ : ∃ y, c = i + (q2 + (q1 + (x + y))) := ⟨c - l.length, by omega⟩
          refine str_ok g l i most w A q1 q2 x y (by rw [hc0, hx]) hc1 hc2 hf1 hx (by omega) h (by rw [show q2 + (q1 + x) = l.length - i from by omega]; exact hrc) Hq.out hpos Hc ?_
          by_cases h0 : q1 + (x + y) = 0
          · rw [if_pos h0]
            rw [if_pos (by omega)] at hr3
            exact hr3
          · rw [if_neg h0]
            rw [if_neg (by omega)] at hr3
            exact hr3
    · obtain ⟨rfl, rfl⟩ := hq4 hq0
      rw [if_pos hq0] at Hc
      have hnb : (q3 != 0) = true := by rw [bne_iff_ne]; exact hq0
      have hnb2 : (q3 == 0) = false := by simpa using hq0
      clear hq0 hq4
      by_cases hci : c = i
      · subst hci
        rw [if_pos rfl, show l.length - c = 0 from by omega] at hrc
        go_enter Try.func13, Try.ntmps13
        go_wp2_with (first
          | (go_at_call 27
             refine (err_any g l _ 0 _ h).mono ?_
             rintro e w1 ⟨rfl, rfl⟩))
        go_quiet (fail)
        go_wp2_with (first
          | (go_at_call 28
             refine (number_q _ _ _ _ most _ g (by omega) (by omega) (hrc.drewN _) 0 0 _ Hq.out).mono ?_
             rintro e w1 ⟨rfl, rfl⟩))
        go_ret
        refine ⟨by rw [Hc.out]; rfl, ?_, only_setCell (only_drewN (only_self _ _) _) (.inl rfl) _⟩
        rw [Hc.out]
        exact (h.drewN _).setErr q3
      · rw [if_neg hci] at hrc
        go_enter Try.func13, Try.ntmps13
        go_wp2_with (first
          | (go_at_call 27
             refine (err_any g l i 0 _ h).mono ?_
             rintro e w1 ⟨rfl, rfl⟩))
        go_quiet (fail)
        go_wp2_with (first
          | (go_at_call 28
             refine (number_q _ _ _ (l.drop i) most _ g (by omega) (by omega) (hrc.drewN _) 0 0 _ Hq.out).mono ?_
             rintro e w1 ⟨rfl, rfl⟩))
        go_ret
        refine ⟨by rw [Hc.out]; rfl, ?_, only_setCell (only_drewN (only_self _ _) _) (.inl rfl) _⟩
        rw [Hc.out]
        exact (h.drewN _).setErr q3
  · have hnb : (er != 0) = true := by rw [bne_iff_ne]; exact he
    have Hc : Hid (strR l i er most = ([], i, er)) := hide (by simp [strR, he])
    clear he
    go_enter Try.func13, Try.ntmps13
    go_wp2_with (first
      | (go_at_call 27
         refine (err_any g l i er _ h).mono ?_
         rintro e w1 ⟨rfl, rfl⟩))
    go_ret
    exact ⟨by rw [Hc.out]; rfl, by rw [Hc.out]; exact h, only_self _ _⟩
end Go.Proofs.Ytbckpcofcgapdaa.Vlq
