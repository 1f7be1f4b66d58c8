/-
  The contracts of the document's own reader. Condition: no more than 2^40 bytes.
-/
import Derived.Test.YtbckpcofcgapdaaVlqReader4
namespace Go.Proofs.Ytbckpcofcgapdaa.Vlq
open Go.RowKit
set_option linter.unusedVariables false
/-- The document's reader lies in block g: the bytes l are left; its error is e. -/
def RdM (w : World) (g : Nat) (l : List UInt8) (e : Int) : Prop :=
  Blk w g 45 #[.string (str l), .int .i64 e] ∧ l.length ≤ 1099511627776
theorem RdM.lt {w : World} {g : Nat} {l : List UInt8} {e : Int} (h : RdM w g l e) : g < w.heap.size := h.1.lt
theorem RdM.cells {w : World} {g : Nat} {l : List UInt8} {e : Int} (h : RdM w g l e) :
   w.cell? ⟨g, 0, none⟩ = some (.string (str l)) ∧ w.cell? ⟨g, 1, none⟩ = some (.int .i64 e) ∧ w.frozen? ⟨g, 0, none⟩ = false ∧ w.frozen? ⟨g, 1, none⟩ = false ∧ l.length ≤ 1099511627776 :=
  ⟨(h.1.cell 0).trans rfl, (h.1.cell 1).trans rfl, h.1.frozen 0, h.1.frozen 1, h.2⟩
theorem RdM.setStr {w : World} {g : Nat} {l : List UInt8} {e : Int} (h : RdM w g l e) (l' : List UInt8) (hl : l'.length ≤ l.length) : RdM (w.setCell ⟨g, 0, none⟩ (.string (str l'))) g l' e :=
  ⟨h.1.set_ 0 _, Nat.le_trans hl h.2⟩
theorem RdM.setErr {w : World} {g : Nat} {l : List UInt8} {e : Int} (h : RdM w g l e) (e' : Int) : RdM (w.setCell ⟨g, 1, none⟩ (.int .i64 e')) g l e' := ⟨h.1.set_ 1 _, h.2⟩
theorem RdM.grown {w w' : World} {g : Nat} {row : Option Nat} {l : List UInt8} {e : Int} (h : RdM w g l e) (hb : w.grownBy w' row) (hg : some g ≠ row) : RdM w' g l e := ⟨h.1.grown hb hg, h.2⟩
theorem RdM.below {w w' : World} {g B : Nat} {l : List UInt8} {e : Int} (h : RdM w g l e) (hb : Below B w w') (hg : g < B) : RdM w' g l e := ⟨h.1.below hb hg, h.2⟩
theorem look_q (l : List UInt8) (most : Int) (w : World) (hn : l.length ≤ 1099511627776) (q1 q2 : Nat) (q3 : Int) (hq : (q1, q2, q3) = look l most) :
   Calls Try.prog 32 #[.string (str l), .int .i64 most] w fun e w' => e = .returned (.tuple #[.int .i64 q1, .int .i64 q2, .int .i64 q3]) ∧ w = w' := by
  have := look_any l most w hn
  rw [← hq] at this
  exact this
/-- What a Num leaves: the number, what is left, the error. -/
def numM (l : List UInt8) (er most : Int) : Int × List UInt8 × Int :=
  if er ≠ 0 then (0, l, er) else ((look l most).1, l.drop (look l most).2.1, (look l most).2.2)
/-- What a Str leaves. -/
def strM (l : List UInt8) (er most : Int) : List UInt8 × List UInt8 × Int :=
  if er ≠ 0 then ([], l, er)
  else if (look l most).2.2 ≠ 0 then ([], l, (look l most).2.2)
  else if l.length - (look l most).2.1 < (look l most).1 then ([], l, 2)
  else ((l.drop (look l most).2.1).take (look l most).1, l.drop ((look l most).2.1 + (look l most).1), 0)
set_option maxHeartbeats 1600000 in
set_option maxRecDepth 100000 in
theorem refRdStr_any (g : Nat) (l : List UInt8) (er most : Int) (w : World) (h : RdM w g l er) :
   Calls Try.prog 17 #[.pointer (some ⟨g, 0, none⟩), .int .i64 most] w fun e w' => e = .returned (.string (str (strM l er most).1)) ∧ RdM w' g (strM l er most).2.1 (strM l er most).2.2 ∧ w.grownBy w' (some g) := by
  obtain ⟨hc0, hc1, hf0, hf1, hl⟩ := h.cells
  by_cases he : er = 0
  · subst he
    obtain ⟨q1, q2, q3, Hq⟩ : ∃ q1 q2 q3, Hid ((q1, q2, q3) = look l most) := ⟨_, _, _, hide rfl⟩
    have Hc := hide (show strM l 0 most = if q3 ≠ 0 then ([], l, q3) else if l.length - q2 < q1 then ([], l, 2) else ((l.drop q2).take q1, l.drop (q2 + q1), 0) from by simp [strM, ← Hq.out])
    have hql := look_le l most
    rw [← Hq.out] at hql
    obtain ⟨hq1, hq2, hq3, hq4⟩ := hql
    simp only at hq1 hq2 hq4
    clear hq3 hq4
    have hsz : q2 ≤ (str l).size := by rw [str_size]; exact hq1
    have hszl : (str l).size ≤ 1099511627776 := by rw [str_size]; exact hl
    by_cases hq0 : q3 = 0
    · subst hq0
      rw [if_neg (by simp)] at Hc
      by_cases hlong : l.length - q2 < q1
      · rw [if_pos hlong] at Hc
        have hlb : (((str l).size : Int) - q2 < (q1 : Int)) := by rw [str_size]; omega
        clear hlong
        go_enter Try.func17, Try.ntmps17
        go_wp2_with (first
          | (go_at_call 32
             refine (look_q l most _ (by omega) q1 q2 0 Hq.out).mono ?_
             rintro e w1 ⟨rfl, rfl⟩))
        go_ret
        refine ⟨by rw [Hc.out]; rfl, ?_, only_setCell (only_self _ _) (.inl rfl) _⟩
        rw [Hc.out]
        exact h.setErr 2
      · rw [if_neg hlong] at Hc
        have hlb : ¬ (((str l).size : Int) - q2 < (q1 : Int)) := by rw [str_size]; omega
        have hlc : q2 + q1 ≤ (str l).size := by rw [str_size]; omega
        have hsl : ∀ W : World, (Instr.slice 9 (.string (str l)) (some (.int .i64 (q2 : Int))) (some (.int .i64 ((q2 : Int) + (q1 : Int)))) none).run Try.prog W = .ok (.string (str ((l.drop q2).take q1))) W := fun W => by
          rw [run_slice_string W 9 (str l) .i64 .i64 (q2 : Int) ((q2 : Int) + (q1 : Int)) Try.underlying9 (by omega) (by omega) (by omega), show ((q2 : Int) + (q1 : Int)).toNat = q2 + q1 from by omega, Int.toNat_natCast, str_extract, Nat.add_sub_cancel_left]
        clear hlong
        go_enter Try.func17, Try.ntmps17
        go_wp2_with (first
          | (go_at_call 32
             refine (look_q l most _ (by omega) q1 q2 0 Hq.out).mono ?_
             rintro e w1 ⟨rfl, rfl⟩))
        go_ret
        refine ⟨by rw [Hc.out]; rfl, ?_, only_setCell (p := ⟨g, 0, none⟩) (only_setCell (p := ⟨g, 1, none⟩) (only_self w g) (.inl rfl) _) (.inl rfl) _⟩
        rw [Hc.out, str_extract_end]
        exact (h.setErr 0).setStr (l.drop (q2 + q1)) (by simp)
    · rw [if_pos hq0] at Hc
      have hnb : (q3 != 0) = true := by rw [bne_iff_ne]; exact hq0
      have hnb2 : (q3 == 0) = false := by simpa using hq0
      clear hq0
      go_enter Try.func17, Try.ntmps17
      go_wp2_with (first
        | (go_at_call 32
           refine (look_q l most _ (by omega) q1 q2 q3 Hq.out).mono ?_
           rintro e w1 ⟨rfl, rfl⟩))
      go_ret
      refine ⟨by rw [Hc.out]; rfl, ?_, only_setCell (only_self _ _) (.inl rfl) _⟩
      rw [Hc.out]
      exact h.setErr q3
  · have hnb : (er != 0) = true := by rw [bne_iff_ne]; exact he
    have Hc : Hid (strM l er most = ([], l, er)) := hide (by simp [strM, he])
    clear he
    go_enter Try.func17, Try.ntmps17
    go_wp2
    go_ret
    exact ⟨by rw [Hc.out]; rfl, by rw [Hc.out]; exact h, only_self _ _⟩
/-- What Close tells of what is left. -/
def closedM (l : List UInt8) (e : Int) : Int := if e ≠ 0 then e else if l = [] then 0 else 3
set_option maxHeartbeats 800000 in
theorem refClose_any (g : Nat) (l : List UInt8) (er : Int) (w : World) (h : RdM w g l er) :
   Calls Try.prog 18 #[.pointer (some ⟨g, 0, none⟩)] w fun e w' => e = .returned (.int .i64 (closedM l er)) ∧ w = w' := by
  obtain ⟨hc0, hc1, hf0, hf1, hl⟩ := h.cells
  by_cases he : er = 0
  · subst he
    by_cases h0 : l = []
    · have hb : (!(str l).toList.isEmpty) = false := by rw [h0, str, ByteArray.toList_mk]; rfl
      have hb2 : (str l).toList.isEmpty = true := by rw [h0, str, ByteArray.toList_mk]; rfl
      have Hc : Hid (closedM l 0 = 0) := hide (by simp [closedM, h0])
      clear h0
      go_enter Try.func18, Try.ntmps18
      go_wp2
      go_ret
      exact ⟨by rw [Hc.out]; rfl, rfl⟩
    · have hb : (!(str l).toList.isEmpty) = true := by rw [str, ByteArray.toList_mk]; simpa using h0
      have hb2 : (str l).toList.isEmpty = false := by rw [str, ByteArray.toList_mk]; simpa using h0
      have Hc : Hid (closedM l 0 = 3) := hide (by simp [closedM, h0])
      clear h0
      go_enter Try.func18, Try.ntmps18
      go_wp2
      go_ret
      exact ⟨by rw [Hc.out]; rfl, rfl⟩
  · have hnb : (er == 0) = false := by simp [he]
    have Hc : Hid (closedM l er = er) := hide (by simp [closedM, he])
    clear he
    go_enter Try.func18, Try.ntmps18
    go_wp2
    go_ret
    exact ⟨by rw [Hc.out]; rfl, rfl⟩
end Go.Proofs.Ytbckpcofcgapdaa.Vlq
