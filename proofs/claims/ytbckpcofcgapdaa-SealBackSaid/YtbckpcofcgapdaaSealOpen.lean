/-
  The contracts of the program's Open and of the document's own: what the plain mathematics tells of any bytes. Condition: at most a million bytes.
-/
import Derived.Test.YtbckpcofcgapdaaSealPack
import Derived.Test.YtbckpcofcgapdaaWireRd
import Derived.Test.YtbckpcofcgapdaaStampAwake
namespace Go.Proofs.Ytbckpcofcgapdaa.Seal
open Go Go.RowKit Go.Lib Go.Proofs.Ytbckpcofcgapdaa.Wire
open Go.Proofs.Ytbckpcofcgapdaa.Label (runes fitL fit_any refFit_any)
open Go.Proofs.Ytbckpcofcgapdaa.Stamp (opens open_yes open_none refOpen_yes refOpen_no)
open Go.Proofs.Ytbckpcofcgapdaa.Vlq (closedM)
set_option linter.unusedVariables false
theorem errO_no {b : List UInt8} (h : ¬ opens b) : errO b = 8 := by unfold errO; rw [if_neg (fun e => h ((opensB_iff _).1 e))]
theorem errO_yes {b : List UInt8} {m : Nat} (h : opens b) (hm : b.length = m + 4) : errO b = errX (b.take m) := by
  unfold errO; rw [if_pos ((opensB_iff _).2 h), hm, Nat.add_sub_cancel]
theorem openB_yes {b : List UInt8} {m : Nat} (h : errO b = 0) (hm : b.length = m + 4) : openB b = (str (nmS (b.take m)).1, (bdS (b.take m)).1) := by
  unfold openB; rw [if_pos h, hm, Nat.add_sub_cancel]
/-- What Open answers. -/
def Opened (w : World) (b : List UInt8) (e : Ending) (w' : World) : Prop :=
  ∃ A n c, e = .returned (.tuple #[.string (openB b).1, .slice A n c, .int .i64 (errO b)]) ∧ NewB w' w.heap.size A n c (openB b).2 ∧ Below w.heap.size w w'
theorem opened_none {w w' : World} {b : List UInt8} {e : Ending} (h : errO b ≠ 0) (he : e = .returned (.tuple #[.string ByteArray.empty, .slice none 0 0, .int .i64 (errO b)])) (hb : Below w.heap.size w w') : Opened w b e w' := by
  refine ⟨none, 0, 0, ?_, ?_, hb⟩
  · rw [openB_err h]; exact he
  · rw [openB_err h]; exact ⟨rfl, Nat.le_refl _, own_nil _ _ _, Reads.none_⟩
set_option maxHeartbeats 800000 in
theorem openNo_any (A : Option Addr) (n c : Nat) (b : List UInt8) (w : World) (hn : n ≤ 1000000) (hc : n ≤ c) (hr : Reads w w.heap.size 1 A n (bcs b)) (ho : ¬ opens b) :
    Calls Try.prog 6 #[.slice A n c] w (Opened w b) := by
  have HO := hide (open_none A n c b w hn hc hr ho)
  have HE := hide (errO_no ho)
  go_enter Try.func6, Try.ntmps6
  go_wp2_with (first
    | (go_at_call 11
       refine HO.out.mono ?_
       rintro e w1 ⟨rfl, nd, rfl⟩))
  go_ret3
  exact opened_none (by rw [HE.out]; decide) (by rw [HE.out]; rfl) (below_drewN (Below.refl _ _) nd)
set_option maxHeartbeats 1600000 in
set_option maxRecDepth 100000 in
theorem openYes_any (A : Option Addr) (m c : Nat) (b : List UInt8) (w : World) (hn : m ≤ 1000000) (hc : m + 4 ≤ c) (hr : Reads w w.heap.size 1 A (m + 4) (bcs b)) (ho : opens b) :
    Calls Try.prog 6 #[.slice A (m + 4 : Nat) c] w (Opened w b) := by
  obtain ⟨i0, hi0, hz0, hz1, hz2⟩ := info_parts info_u8
  have hlen : b.length = m + 4 := by have := hr.1; rw [bcs_length] at this; omega
  have e1 := errO_yes ho hlen
  have e2 := fun h => openB_yes (b := b) h hlen
  unfold errX endS at e1
  have hl1 : (nmS (b.take m)).1.length ≤ 24 := by have := strS_len 24 (by omega) (b.take m, 0); unfold nmS; omega
  have hl2 : (bdS (b.take m)).1.length ≤ 8192 := by have := strS_len 8192 (by omega) (nmS (b.take m)).2; unfold bdS; omega
  have HO := hide (open_yes A m c b w hn hc hr ho)
  have HV := hide (fun (A1 : Option Addr) (c1 : Nat) (wx : World) (h : Reads wx wx.heap.size 1 A1 m (bcs (b.take m))) => open_S A1 m c1 (b.take m) wx (by omega) h)
  have H1 := hide (fun (g : Nat) (wx : World) (h : RdS wx g (b.take m, 0)) => str_S g (b.take m, 0) 24 wx h)
  have H2 := hide (fun (g : Nat) (wx : World) (h : RdS wx g (nmS (b.take m)).2) => str_S g (nmS (b.take m)).2 8192 wx h)
  have HC := hide (fun (g : Nat) (wx : World) (h : RdS wx g (bdS (b.take m)).2) => close_S g (bdS (b.take m)).2 wx h)
  have q1 : strS 24 (b.take m, 0) = nmS (b.take m) := rfl
  have q2 : strS 8192 (nmS (b.take m)).2 = bdS (b.take m) := rfl
  rw [q1] at H1
  rw [q2] at H2
  clear q1 q2 hr ho hlen
  generalize hx1 : (nmS (b.take m)).1 = n1 at *
  generalize hx2 : (nmS (b.take m)).2 = s1 at *
  generalize hx3 : (bdS (b.take m)).1 = n2 at *
  generalize hx4 : (bdS (b.take m)).2 = s2 at *
  generalize hx5 : closedM s2.1 s2.2 = e0 at *
  clear hx1 hx2 hx3 hx4 hx5
  generalize b.take m = X at *
  have hz3 : (str n2).size ≤ 8192 := by rw [str_size]; exact hl2
  have hz4 : (str n1).size ≤ 24 := by rw [str_size]; exact hl1
  have HF := hide (fun (wx : World) => fit_any (str n1) wx (by omega))
  have E1 := hide e1
  have E2 := hide e2
  clear e1 e2 hl1 hl2
  go_enter Try.func6, Try.ntmps6
  go_upto_region 7 with (first
    | (go_at_call 11
       refine HO.out.mono ?_
       rintro e w1 ⟨A1, c1, rfl, hn1, hb1⟩)
    | (go_at_call 12
       refine (HV.out A1 c1 _ hn1.2.2.2).mono ?_
       rintro e w2 ⟨g, rfl, hg0, r2, hb2⟩
       have hw2 : Below w.heap.size w w2 := hb1.trans (hb2.mono hb1.size)
       have hs1 := hb1.size)
    | (go_at_call 13
       have h9 := r3
       refine (H2.out g _ r3).mono ?_
       rintro e w4 ⟨rfl, r4, hg4⟩
       have hw4 : Below w.heap.size w w4 := hw3.grown hg4 hw3.size (fun k hk => by injection hk with hk; omega))
    | (go_at_call 13
       refine (H1.out g _ r2).mono ?_
       rintro e w3 ⟨rfl, r3, hg3⟩
       have hw3 : Below w.heap.size w w3 := hw2.grown hg3 hw2.size (fun k hk => by injection hk with hk; omega))
    | (go_at_call 14
       refine (HC.out g _ r4).mono ?_
       rintro e w5 ⟨rfl, nd, rfl⟩
       have hw5 : Below w.heap.size w (w4.drewN nd) := below_drewN hw4 nd))
  clear hn1 hb1 hb2 r2 hw2 r3 hg3 hw3 hg4 r4 HO HV H1 H2 HC h9
  generalize w4.drewN nd = W at *
  by_cases he : e0 = 0
  · subst he
    have E3 : Hid (errO b = if fitL (runes (str n1) 0) = true then 0 else 3) := hide (by rw [E1.out, if_neg (by simp)])
    cases hf : fitL (runes (str n1) 0)
    · rw [hf] at HF
      have E4 : Hid (errO b = 3) := hide (by rw [E3.out, if_neg (by rw [hf]; simp)])
      clear E1 E2 E3 hf
      go_wp2_with (first
        | (go_at_call 15
           refine (HF.out _).mono ?_
           rintro e w6 ⟨rfl, hb6⟩
           have hw6 := hw5.trans (hb6.mono hw5.size)))
      go_ret3
      exact opened_none (by rw [E4.out]; decide) (by rw [E4.out]; rfl) hw6
    · rw [hf] at HF
      have E4 : Hid (errO b = 0) := hide (by rw [E3.out, if_pos hf])
      have E5 : Hid (openB b = (str n1, n2)) := hide (E2.out E4.out)
      clear E1 E2 E3 hf
      go_wp2_with (first
        | (go_at_call 15
           refine (HF.out _).mono ?_
           rintro e w6 ⟨rfl, hb6⟩
           have hw6 := hw5.trans (hb6.mono hw5.size)
           have hs6 := hw6.size)
        | (at_builtin
           refine Lib.wpList_append_own_string _ rfl (.const (.slice none 0 0)) (.tmp 37) _ _ rfl w.heap.size 5 i0 Try.underlying22 Try.underlying9 hi0 hz0 hz1 hz2 _ 0 _ rfl
             (own_nil _ _ _) (str n2) rfl (by simp only [maxLen]; omega) (by omega) (by omega) ?_
           intro v7 w7 hown7 hg7 hat7
           have hw7 : Below w.heap.size w w7 := hw6.grown hg7 hs6 (fun k hk => by have hk2 : (none : Option Nat) = some k := hk; cases hk2)
           have hown7' : w7.ownsRow w.heap.size 5 1 v7 (str n2).size (bcs n2) := by
             have e : Lib.strCells (str n2) = bcs n2 := by
               have h : Lib.strCells (str n2) = bcs (str n2).data.toList := rfl
               rw [h, str_data]
             rw [e, ← bcs_append, List.nil_append, Nat.zero_add] at hown7
             exact hown7
           clear hown7 hg7 hat7
           obtain ⟨A7, c7, rfl, hn7⟩ := new_of_own hown7'))
      go_ret3
      refine ⟨A7, (str n2).size, c7, ?_, ?_, hw7⟩
      · rw [E4.out, E5.out]; rfl
      · rw [E5.out]; exact hn7
  · have E3 : Hid (errO b = e0) := hide (by rw [E1.out, if_pos he])
    have hb1 : (e0 == 0) = false := beq_eq_false_iff_ne.2 he
    have hb2 : (e0 != 0) = true := bne_iff_ne.2 he
    have Hne := hide he
    clear E1 E2
    go_wp2
    go_ret3
    exact opened_none (by rw [E3.out]; exact Hne.out) (by rw [E3.out]; rfl) hw5
theorem open_any (A : Option Addr) (n c : Nat) (b : List UInt8) (w : World) (hn : n ≤ 1000000) (hc : n ≤ c) (hr : Reads w w.heap.size 1 A n (bcs b)) :
    Calls Try.prog 6 #[.slice A n c] w (Opened w b) := by
  have hlen : b.length = n := by have := hr.1; rw [bcs_length] at this; omega
  by_cases ho : opens b
  · obtain ⟨m, rfl⟩ : ∃ m, n = m + 4 := ⟨n - 4, by have := ho.1; omega⟩
    exact openYes_any A m c b w (by omega) hc hr ho
  · exact openNo_any A n c b w hn hc hr ho
/-- What the document's own Open answers. -/
def OpenedD (w : World) (b : List UInt8) (e : Ending) (w' : World) : Prop :=
  e = .returned (.tuple #[.string (openB b).1, .string (str (openB b).2), .int .i64 (errO b)]) ∧ Below w.heap.size w w'
theorem openedD_none {w w' : World} {b : List UInt8} {e : Ending} (h : errO b ≠ 0) (he : e = .returned (.tuple #[.string ByteArray.empty, .string ByteArray.empty, .int .i64 (errO b)])) (hb : Below w.heap.size w w') : OpenedD w b e w' := by
  refine ⟨?_, hb⟩
  rw [openB_err h]; exact he
set_option maxHeartbeats 800000 in
theorem refOpenNo_any (b : List UInt8) (w : World) (hn : b.length ≤ 1000000) (ho : ¬ opens b) :
    Calls Try.prog 7 #[.string (str b)] w (OpenedD w b) := by
  have HO := hide (refOpen_no b w hn ho)
  have HE := hide (errO_no ho)
  go_enter Try.func7, Try.ntmps7
  go_wp2_with (first
    | (go_at_call 16
       refine HO.out.mono ?_
       rintro e w1 ⟨rfl, hb1⟩))
  go_ret3
  exact openedD_none (by rw [HE.out]; decide) (by rw [HE.out]; rfl) hb1
set_option maxHeartbeats 1600000 in
set_option maxRecDepth 100000 in
theorem refOpenYes_any (b : List UInt8) (m : Nat) (w : World) (hlen : b.length = m + 4) (hn : m ≤ 1000000) (ho : opens b) :
    Calls Try.prog 7 #[.string (str b)] w (OpenedD w b) := by
  have e1 := errO_yes ho hlen
  have e2 := fun h => openB_yes (b := b) h hlen
  unfold errX endS at e1
  have hl1 : (nmS (b.take m)).1.length ≤ 24 := by have := strS_len 24 (by omega) (b.take m, 0); unfold nmS; omega
  have hl3 : (b.take m).length ≤ 1000000 := by rw [List.length_take]; omega
  have HO := hide (refOpen_yes b m w hlen hn ho)
  have H1 := hide (fun (g : Nat) (wx : World) (h : RdD wx g (b.take m, 0)) => str_D g (b.take m, 0) 24 wx h)
  have H2 := hide (fun (g : Nat) (wx : World) (h : RdD wx g (nmS (b.take m)).2) => str_D g (nmS (b.take m)).2 8192 wx h)
  have HC := hide (fun (g : Nat) (wx : World) (h : RdD wx g (bdS (b.take m)).2) => close_D g (bdS (b.take m)).2 wx h)
  have q1 : strS 24 (b.take m, 0) = nmS (b.take m) := rfl
  have q2 : strS 8192 (nmS (b.take m)).2 = bdS (b.take m) := rfl
  rw [q1] at H1
  rw [q2] at H2
  clear q1 q2 ho hlen
  generalize hx1 : (nmS (b.take m)).1 = n1 at *
  generalize hx2 : (nmS (b.take m)).2 = s1 at *
  generalize hx3 : (bdS (b.take m)).1 = n2 at *
  generalize hx4 : (bdS (b.take m)).2 = s2 at *
  generalize hx5 : closedM s2.1 s2.2 = e0 at *
  clear hx1 hx2 hx3 hx4 hx5
  generalize b.take m = X at *
  have hz4 : (str n1).size ≤ 24 := by rw [str_size]; exact hl1
  have HF := hide (fun (wx : World) => refFit_any (str n1) wx (by omega))
  have E1 := hide e1
  have E2 := hide e2
  clear e1 e2 hl1
  go_enter Try.func7, Try.ntmps7
  go_upto_region 4 with (first
    | (go_at_call 16
       refine HO.out.mono ?_
       rintro e w1 ⟨rfl, hb1⟩))
  go_upto_region 5 with fail
  obtain ⟨W2, hW2⟩ : ∃ W, W = w1.alloc (.cells #[.string (str X), .int .i64 0] 45) := ⟨_, rfl⟩
  have r2 : RdD W2 w1.heap.size (X, 0) := by rw [hW2]; exact ⟨Blk.new _ _ _, by simp only; omega⟩
  have hw2 : Below w.heap.size w W2 := by rw [hW2]; exact hb1.alloc hb1.size _
  have hs1 := hb1.size
  rw [← hW2]
  clear hW2
  go_upto_region 8 with (first
    | (go_at_call 17
       have h9 := r3
       refine (H2.out _ _ r3).mono ?_
       rintro e w4 ⟨rfl, r4, hg4⟩
       have hw4 : Below w.heap.size w w4 := hw3.grown hg4 hw3.size (fun k hk => by injection hk with hk; omega))
    | (go_at_call 17
       refine (H1.out _ _ r2).mono ?_
       rintro e w3 ⟨rfl, r3, hg3⟩
       have hw3 : Below w.heap.size w w3 := hw2.grown hg3 hw2.size (fun k hk => by injection hk with hk; omega))
    | (go_at_call 18
       refine (HC.out _ _ r4).mono ?_
       rintro e w5 ⟨rfl, rfl⟩))
  clear hb1 r2 hw2 r3 hg3 hw3 hg4 r4 HO H1 H2 HC h9
  by_cases he : e0 = 0
  · subst he
    have E3 : Hid (errO b = if fitL (runes (str n1) 0) = true then 0 else 3) := hide (by rw [E1.out, if_neg (by simp)])
    cases hf : fitL (runes (str n1) 0)
    · rw [hf] at HF
      have E4 : Hid (errO b = 3) := hide (by rw [E3.out, if_neg (by rw [hf]; simp)])
      clear E1 E2 E3 hf
      go_wp2_with (first
        | (go_at_call 10
           refine (HF.out _).mono ?_
           rintro e w6 ⟨rfl, hb6⟩
           have hw6 := hw4.trans (hb6.mono hw4.size)))
      go_ret3
      exact openedD_none (by rw [E4.out]; decide) (by rw [E4.out]; rfl) hw6
    · rw [hf] at HF
      have E4 : Hid (errO b = 0) := hide (by rw [E3.out, if_pos hf])
      have E5 : Hid (openB b = (str n1, n2)) := hide (E2.out E4.out)
      clear E1 E2 E3 hf
      go_wp2_with (first
        | (go_at_call 10
           refine (HF.out _).mono ?_
           rintro e w6 ⟨rfl, hb6⟩
           have hw6 := hw4.trans (hb6.mono hw4.size)))
      go_ret3
      exact ⟨by rw [E4.out, E5.out]; rfl, hw6⟩
  · have E3 : Hid (errO b = e0) := hide (by rw [E1.out, if_pos he])
    have hb1 : (e0 == 0) = false := beq_eq_false_iff_ne.2 he
    have hb2 : (e0 != 0) = true := bne_iff_ne.2 he
    have Hne := hide he
    clear E1 E2
    go_wp2
    go_ret3
    exact openedD_none (by rw [E3.out]; exact Hne.out) (by rw [E3.out]; rfl) hw4
theorem refOpen_any (b : List UInt8) (w : World) (hn : b.length ≤ 1000000) :
    Calls Try.prog 7 #[.string (str b)] w (OpenedD w b) := by
  by_cases ho : opens b
  · obtain ⟨m, hm⟩ : ∃ m, b.length = m + 4 := ⟨b.length - 4, by have := ho.1; omega⟩
    exact refOpenYes_any b m w hm (by omega) ho
  · exact refOpenNo_any b w hn ho
end Go.Proofs.Ytbckpcofcgapdaa.Seal
