/-
  The contract of the document's own Compare: how two texts stand, rune by rune. Condition: the texts have no more than 1,000,000,000 bytes.
-/
import Derived.Test.YtkkbccaggnodhaaDoorLabelCmp
namespace Go.Proofs.YtkkbccaggnodhaaDoor.Label
open Go.RowKit Go.Lib
set_option linter.unusedVariables false
theorem cmpL_at (l m : List Nat) (k x y : Nat) (hx : l[k]? = some x) (hy : m[k]? = some y) : cmpL (l.drop k) (m.drop k) = if x < y then -1 else if y < x then 1 else cmpL (l.drop (k + 1)) (m.drop (k + 1)) := by
  have e1 : l.drop k = x :: l.drop (k + 1) := by
    obtain ⟨h, rfl⟩ := List.getElem?_eq_some_iff.1 hx
    exact List.drop_eq_getElem_cons h
  have e2 : m.drop k = y :: m.drop (k + 1) := by
    obtain ⟨h, rfl⟩ := List.getElem?_eq_some_iff.1 hy
    exact List.drop_eq_getElem_cons h
  rw [e1, e2]
  rfl
theorem cmpL_short (l m : List Nat) (k : Nat) (hk : k = l.length) (hm : k < m.length) : cmpL (l.drop k) (m.drop k) = -1 := by
  rw [List.drop_of_length_le (by omega), List.drop_eq_getElem_cons hm]; rfl
theorem cmpL_long (l m : List Nat) (k : Nat) (hk : k = m.length) (hm : k < l.length) : cmpL (l.drop k) (m.drop k) = 1 := by
  rw [List.drop_of_length_le (l := m) (by omega), List.drop_eq_getElem_cons hm]; rfl
theorem cmpL_both (l m : List Nat) (k : Nat) (hk : k = m.length) (hm : k = l.length) : cmpL (l.drop k) (m.drop k) = 0 := by
  rw [List.drop_of_length_le (l := m) (by omega), List.drop_of_length_le (by omega)]; rfl
set_option maxHeartbeats 4000000 in
set_option maxRecDepth 100000 in
theorem refCompare_any (a b : ByteArray) (w : World) (ha : a.size ≤ 1000000000) (hb : b.size ≤ 1000000000) :
   Calls Tryd.prog 7 #[.string a, .string b] w fun e w' => e = .returned (.int .i64 (cmpL (runes a 0) (runes b 0))) ∧ Below w.heap.size w w' := by
  have H1 := hide (refRunes_any a w ha)
  have H2 := hide (fun wx => refRunes_any b wx hb)
  have hl1 := runes_len a 0 (by omega)
  have hl2 := runes_len b 0 (by omega)
  have hm1 := hide (runes_mem a 0)
  have hm2 := hide (runes_mem b 0)
  generalize runes a 0 = L at *
  generalize runes b 0 = M at *
  go_enter Tryd.func7, Tryd.ntmps7
  go_upto_region 4 with (first
    | (go_at_call 14
       refine (H2.out w1).mono ?_
       rintro e w2 ⟨v2, rfl, ⟨A2, c2, rfl, hr2⟩, hb2, _⟩)
    | (go_at_call 14
       refine H1.out.mono ?_
       rintro e w1 ⟨v1, rfl, ⟨A1, c1, rfl, hr1⟩, hb1, _⟩))
  have hB := hb1.trans (hb2.mono hb1.size)
  have hr1' := (hr1.below hb2).more hb2.size
  clear H1 H2 hr1 hb1 hb2
  go_loopw [7] (fun u wr => ∃ k : Nat, k ≤ L.length ∧ k ≤ M.length ∧ u = .int .i64 (k : Int) ∧ Below w.heap.size w wr ∧ Reads wr wr.heap.size 1 A1 L.length (ncs L) ∧ Reads wr wr.heap.size 1 A2 M.length (ncs M) ∧ Hid (cmpL L M = cmpL (L.drop k) (M.drop k))) (fun u _ => L.length - (RowKit.intOf u).toNat)
  case atStart => exact ⟨0, by omega, by omega, rfl, hB, hr1', hr2, hide rfl⟩
  case round =>
    obtain ⟨k, hk1, hk2, rfl, hbr, hx1, hx2, hc⟩ := hrel
    clear hB hr1' hr2
    by_cases h1 : k < L.length
    · by_cases h2 : k < M.length
      · obtain ⟨ad1, X, hA1, hab1, hX, hcell1⟩ := ncs_at hx1 h1
        obtain ⟨ad2, Y, hA2, hab2, hY, hcell2⟩ := ncs_at hx2 h2
        subst hA1
        subst hA2
        have hxm : X ≤ 1114111 := hm1.out X (List.mem_of_getElem? hX)
        have hym : Y ≤ 1114111 := hm2.out Y (List.mem_of_getElem? hY)
        have hc2 := hc.out.trans (cmpL_at L M k X Y hX hY)
        clear hX hY hc
        by_cases d1 : X < Y
        · rw [if_pos d1] at hc2
          have Hc := hide hc2
          clear hc2
          go_upto_region 6 with fail
          go_quiet (fail)
          go_wp2
          go_ret
          exact ⟨by rw [Hc.out]; rfl, below_drewN hbr _⟩
        · rw [if_neg d1] at hc2
          by_cases d2 : Y < X
          · rw [if_pos d2] at hc2
            have Hc := hide hc2
            clear hc2
            go_upto_region 6 with fail
            go_quiet (fail)
            go_upto_region 8 with fail
            go_quiet (fail)
            go_wp2
            go_ret
            exact ⟨by rw [Hc.out]; rfl, below_drewN (below_drewN hbr _) _⟩
          · rw [if_neg d2] at hc2
            have Hc := hide hc2
            clear hc2
            go_upto_region 6 with fail
            go_quiet (fail)
            go_upto_region 8 with fail
            go_quiet (fail)
            go_wp2
            go_roundw
            case rel => exact ⟨k + 1, by omega, by omega, by go_num, below_drewN hbr _, hx1.drewN _, hx2.drewN _, Hc⟩
            case measure => simp [RowKit.intOf]; omega
      · have Hc : Hid (cmpL L M = 1) := hide (by rw [hc.out]; exact cmpL_long L M k (by omega) h1)
        clear hc
        go_wp2
        go_ret
        exact ⟨by rw [Hc.out]; rfl, hbr⟩
    · by_cases h2 : k < M.length
      · have Hc : Hid (cmpL L M = -1) := hide (by rw [hc.out]; exact cmpL_short L M k (by omega) h2)
        clear hc
        go_wp2
        go_ret
        exact ⟨by rw [Hc.out]; rfl, hbr⟩
      · have Hc : Hid (cmpL L M = 0) := hide (by rw [hc.out]; exact cmpL_both L M k (by omega) (by omega))
        clear hc
        go_wp2
        go_ret
        exact ⟨by rw [Hc.out]; rfl, hbr⟩
end Go.Proofs.YtkkbccaggnodhaaDoor.Label
