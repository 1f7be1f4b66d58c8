/-
  Some texts of this claim, one behind the other: NeedRefSame. What each proves, and its condition, stands at its head.
-/
import Derived.Test.YtajgjkjhaafnfaaZ12
import Derived.Test.YtajgjkjhaafnfaaZ3
import Derived.Test.YtajgjkjhaafnfaaZ11
import Derived.Test.YtajgjkjhaafnfaaZ16
/-
  Contracts of the document's Same and Check: whether needs are alike, which may be. Condition: the slices read as needs, of at most 1,000,000,001 spans each; names of at most 1,000,000,000 bytes.
-/
namespace Go.Proofs.Ytajgjkjhaafnfaa.Need
open Go Go.RowKit Go.Lib Go.Proofs.Ytajgjkjhaafnfaa.Span Go.Proofs.Ytajgjkjhaafnfaa.Grow
open Go.Proofs.Ytajgjkjhaafnfaa.Label (runes fitL refFit_any)
set_option linter.unusedVariables false
set_option maxHeartbeats 4000000 in
set_option maxRecDepth 100000 in
theorem refSameN_any (l m : List Nd) (A A' : Option Addr) (n c n' c' : Nat) (w : World) (h : NdOn w A n l) (h' : NdOn w A' n' m) (hl : Short l) (hm : Short m) (hn : n ≤ 140737488355328) :
    Calls Try.prog 16 #[.slice A n c, .slice A' n' c'] w fun e w' => e = .returned (.bool (decide (l = m))) ∧ Below w.heap.size w w' := by
  have h1 := h.len
  have h2 := h'.len
  obtain ⟨r, hr⟩ : ∃ r, r = decide (l = m) := ⟨_, rfl⟩
  rw [← hr]
  have Hr := hide hr
  clear hr
  by_cases hnn : n = n'
  · subst hnn
    have H1 := hide h1
    have H2 := hide h2
    clear h1 h2
    go_enter Try.func16, Try.ntmps16
    go_wp2
    go_loopw [5] (fun v wr => ∃ (i : Nat), i ≤ n ∧ v = .int .i64 (i : Int) ∧ Hid (l.take i = m.take i) ∧ Below w.heap.size w wr) (fun v _ => n - (RowKit.intOf v).toNat)
    case atStart => exact ⟨0, by omega, rfl, hide rfl, Below.refl _ _⟩
    case round =>
      obtain ⟨i, hi, rfl, hf, hb⟩ := hrel
      by_cases hlt : i < n
      · obtain ⟨ad, q, B1, m1, k1, rfl, hbl, hx, hs, c1, c2⟩ := NdIn.at_ (NdIn.below h hb) hlt
        obtain ⟨ad', q', B2, m2, k2, rfl, hbl', hx', hs', c1', c2'⟩ := NdIn.at_ (NdIn.below h' hb) hlt
        have hsn := hide (@alike_snoc l m i q q' hf.out hx hx')
        have hne := hide (@alike_ne l m i q q' hx hx')
        have hq1 := hl q (List.mem_of_getElem? hx)
        have hq2 := hm q' (List.mem_of_getElem? hx')
        obtain ⟨nm, s⟩ := q
        obtain ⟨nm', s'⟩ := q'
        simp only [] at c1 c2 c1' c2' hs hs' hq1 hq2 hsn hne
        have HC := hide (fun (j : Nat) => @refSame_any _ _ k1 _ _ k2 _ _ s s' (wr.drewN j) hs hs' (by have := hs.1; omega) (by have := hs'.1; omega) |>.mono (R' := fun e w'' => e = .returned (.bool (decide (s = s'))) ∧ ∃ m, w'' = wr.drewN m) fun _ _ ⟨he, j2, hw⟩ => ⟨he, _, hw.trans (World.drewN_drewN _ _ _)⟩)
        have hy : ((nm, s) : Nd) = (nm', s') ↔ (nm.toList == nm'.toList) = true ∧ decide (s = s') = true := by rw [eq_names]; simp
        have Hy := hide hy
        clear hx hx' hf hs hs' hq1 hq2 hy h h' hbl hbl'
        generalize decide (s = s') = b at *
        cases hnm : (nm.toList == nm'.toList)
        · have e := hne.out (fun e => by have := (Hy.out.1 e).1; rw [hnm] at this; cases this)
          have e2 : r = false := by rw [Hr.out]; exact e
          have E2 := hide e2
          clear e e2 Hy hsn hne
          go_upto_region 6 with fail
          go_quiet (fail)
          go_wp2
          go_ret
          exact ⟨by rw [E2.out]; rfl, by first | exact below_drewN hb _ | exact hb⟩
        · cases b
          · have e := hne.out (fun e => by have := (Hy.out.1 e).2; cases this)
            have e2 : r = false := by rw [Hr.out]; exact e
            have E2 := hide e2
            clear e e2 Hy hsn hne
            go_upto_region 6 with fail
            go_quiet (first | (go_at_call 17; exact HC.out _))
            go_wp2
            go_ret
            exact ⟨by rw [E2.out]; rfl, by first | exact below_drewN hb _ | exact hb⟩
          · have e := hsn.out (Hy.out.2 ⟨hnm, rfl⟩)
            have E := hide e
            clear e Hy hsn hne
            go_upto_region 6 with fail
            go_quiet (first | (go_at_call 17; exact HC.out _))
            go_wp2
            go_roundw
            case rel => exact ⟨i + 1, by omega, by go_num, E, by first | exact below_drewN hb _ | exact hb⟩
            case measure => simp [RowKit.intOf]; omega
      · have hi2 : i = n := by omega
        subst hi2
        have hq := hf.out
        rw [List.take_of_length_le (by rw [H1.out]; exact Nat.le_refl _), List.take_of_length_le (by rw [H2.out]; exact Nat.le_refl _)] at hq
        have e2 : r = true := by rw [Hr.out]; exact decide_eq_true hq
        have E2 := hide e2
        clear hf hq e2
        go_wp2
        go_ret
        exact ⟨by rw [E2.out]; rfl, by first | exact below_drewN hb _ | exact hb⟩
  · have e2 : r = false := by rw [Hr.out]; exact decide_eq_false fun e => hnn (by rw [← h1, ← h2, e])
    have E2 := hide e2
    clear e2 h1 h2
    go_enter Try.func16, Try.ntmps16
    go_wp2
    go_ret
    exact ⟨by rw [E2.out]; rfl, Below.refl _ _⟩
end Go.Proofs.Ytajgjkjhaafnfaa.Need
