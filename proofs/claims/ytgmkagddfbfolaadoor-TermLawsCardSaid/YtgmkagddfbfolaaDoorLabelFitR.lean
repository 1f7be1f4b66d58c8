/-
  The contract of the document's own Fit: whether a text is a name that may be. Condition: the text has no more than 1,000,000,000 bytes.
-/
import Derived.Test.YtgmkagddfbfolaaDoorLabelRunes
import Derived.Test.YtgmkagddfbfolaaDoorLabelFit
import Derived.Test.YtgmkagddfbfolaaDoorLabelKindR
namespace Go.Proofs.YtgmkagddfbfolaaDoor.Label
open Go.RowKit Go.Lib
set_option linter.unusedVariables false
theorem allOk_end (l : List Nat) (i : Nat) : allOk (i + l.length) (l.drop l.length) = true := by rw [List.drop_length]; rfl
set_option maxHeartbeats 4000000 in
set_option maxRecDepth 100000 in
theorem refFit_any (s : ByteArray) (w : World) (hs : s.size ≤ 1000000000) :
   Calls Tryd.prog 29 #[.string s] w fun e w' => e = .returned (.bool (fitL (runes s 0))) ∧ Below w.heap.size w w' := by
  have HR := hide (refRunes_any s w hs)
  have hlen := runes_len s 0 (by omega)
  have hmem := hide (runes_mem s 0)
  have Hsm := hide (fit_small s)
  generalize runes s 0 = l at *
  have hdef : fitL l = (allOk 0 l && (decide (1 ≤ l.length) && decide (l.length ≤ 12))) := rfl
  by_cases hbig : 100 < s.size
  · have Hf : Hid (fitL l = false) := hide (by
      cases h : fitL l with
      | false => rfl
      | true => exact absurd (Hsm.out h) (by omega))
    clear Hsm hdef HR hmem
    go_enter Tryd.func29, Tryd.ntmps29
    go_wp2
    go_ret
    exact ⟨by rw [Hf.out]; rfl, Below.refl _ _⟩
  · have hd := hide hdef
    clear Hsm hdef
    go_enter Tryd.func29, Tryd.ntmps29
    go_upto_region 5 with (first
      | (go_at_call 53
         refine HR.out.mono ?_
         rintro e w1 ⟨v, rfl, ⟨A, c, rfl, hr⟩, hb, _⟩))
    clear HR
    go_loopw [4] (fun u wr => ∃ k : Nat, k ≤ l.length ∧ u = .int .i64 (k : Int) ∧ Below w.heap.size w wr ∧ Reads wr wr.heap.size 1 A l.length (ncs l) ∧ Hid (allOk 0 l = allOk (0 + k) (l.drop k))) (fun u _ => l.length - (RowKit.intOf u).toNat)
    case atStart => exact ⟨0, by omega, rfl, hb, hr, hide rfl⟩
    case round =>
      obtain ⟨k, hk, rfl, hbr, hrr, ho⟩ := hrel
      clear hb hr
      by_cases hlt : k < l.length
      · obtain ⟨ad, x, hA, hab, hx, hcell⟩ := ncs_at hrr hlt
        subst hA
        have hxm : x ≤ 1114111 := hmem.out x (List.mem_of_getElem? hx)
        have HK := hide (fun wx => refKind_any x wx hxm)
        have hkl := kindN_le x
        have hd2 := ho.out.trans (allOk_drop l 0 k x hx)
        rw [Nat.zero_add] at hd2
        have Hn4 := hide (fun (h : kindN x = 4) => hd2.trans (by rw [okN_other k x h]; rfl : _ = false))
        have Hn0 := hide (fun (h0 : k = 0) (h : ¬ kindN x ≤ 1) => hd2.trans (by rw [h0, okN_first x h]; rfl : _ = false))
        have Hy := hide (fun (h4 : kindN x ≠ 4) (h : k ≠ 0 ∨ kindN x ≤ 1) => hd2.trans (by rw [h.elim (okN_later k x h4) (okN_letter k x), Bool.true_and] : _ = allOk (k + 1) (l.drop (k + 1))))
        clear hx ho hd2 hmem
        generalize kindN x = K at *
        by_cases hk4 : K = 4
        · have Hf := hide (Hn4.out hk4)
          clear Hn4 Hn0 Hy
          subst hk4
          go_wp2_with (first
            | (go_at_call 54
               refine (HK.out _).mono ?_
               rintro e w2 ⟨rfl, rfl⟩))
          go_ret
          exact ⟨by rw [hd.out, Hf.out]; rfl, hbr⟩
        · have hkb : ((K : Int) == 4) = false := by rw [beq_eq_false_iff_ne]; omega
          by_cases ha0 : k = 0
          · subst ha0
            rw [add_zero'] at hcell
            by_cases hk1 : K ≤ 1
            · have Hf := hide (Hy.out hk4 (.inr hk1))
              clear Hn4 Hn0 Hy
              have hk1z : ¬ (1 < (K : Int)) := by omega
              go_wp2_with (first
                | (go_at_call 54
                   refine (HK.out _).mono ?_
                   rintro e w2 ⟨rfl, rfl⟩))
              go_roundw
              case rel => exact ⟨1, by omega, by go_num, hbr, hrr, hide (by rw [Hf.out])⟩
              case measure => simp [RowKit.intOf]; omega
            · have Hf := hide (Hn0.out rfl hk1)
              clear Hn4 Hn0 Hy
              have hk1z : 1 < (K : Int) := by omega
              go_wp2_with (first
                | (go_at_call 54
                   refine (HK.out _).mono ?_
                   rintro e w2 ⟨rfl, rfl⟩))
              go_ret
              exact ⟨by rw [hd.out, Hf.out]; rfl, hbr⟩
          · have Hf := hide (Hy.out hk4 (.inl ha0))
            clear Hn4 Hn0 Hy
            have hab0 : ((k : Int) == 0) = false := by rw [beq_eq_false_iff_ne]; omega
            go_wp2_with (first
              | (go_at_call 54
                 refine (HK.out _).mono ?_
                 rintro e w2 ⟨rfl, rfl⟩))
            go_roundw
            case rel => exact ⟨k + 1, by omega, by go_num, hbr, hrr, hide (by rw [Hf.out, Nat.zero_add])⟩
            case measure => simp [RowKit.intOf]; omega
      · have hk2 : k = l.length := by omega
        subst hk2
        have Ho : Hid (allOk 0 l = true) := hide (by rw [ho.out]; exact allOk_end l 0)
        clear ho hmem
        by_cases h1 : 1 ≤ l.length
        · by_cases h2 : l.length ≤ 12
          · have h2z : ((l.length : Nat) : Int) ≤ 12 := by omega
            go_wp2
            go_ret
            exact ⟨by rw [hd.out, Ho.out, decide_eq_true h1, decide_eq_true h2]; rfl, hbr⟩
          · have h2z : ¬ (((l.length : Nat) : Int) ≤ 12) := by omega
            go_wp2
            go_ret
            exact ⟨by rw [hd.out, Ho.out, decide_eq_true h1, decide_eq_false h2]; rfl, hbr⟩
        · go_wp2
          go_ret
          exact ⟨by rw [hd.out, Ho.out, decide_eq_false h1]; rfl, hbr⟩
end Go.Proofs.YtgmkagddfbfolaaDoor.Label
