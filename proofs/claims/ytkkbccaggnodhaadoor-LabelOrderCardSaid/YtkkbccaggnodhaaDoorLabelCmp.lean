/-
  The contracts of the library's comparing of two runes, and of the program's and the document's own Compare: how two texts stand, rune by rune. Condition: the texts have no more than 1,000,000,000 bytes; the two tables of the library hold what its text lays in them.
-/
import Derived.Test.YtkkbccaggnodhaaDoorLabelRunes
import Derived.Test.YtkkbccaggnodhaaDoorLabelFit
import Derived.Test.YtkkbccaggnodhaaDoorLabelLay
namespace Go.Proofs.YtkkbccaggnodhaaDoor.Label
open Go.RowKit Go.Lib
set_option linter.unusedVariables false
def sgn (x y : Nat) : Int := if x < y then -1 else if y < x then 1 else 0
set_option maxRecDepth 100000 in
theorem cmpRune_any (x y : Nat) (w : World) (hx : x ≤ 1114111) (hy : y ≤ 1114111) :
   Calls Tryd.prog 13 #[.int .i32 (x : Int), .int .i32 (y : Int)] w fun e w' => e = .returned (.int .i64 (sgn x y)) ∧ w = w' := by
  have HN : Hid (∀ (z : Nat) (wx : World), Calls Tryd.prog 19 #[.int .i32 (z : Int)] wx fun e w' => e = .returned (.bool false) ∧ wx = w') := hide (fun z wx => by
    go_enter Tryd.func19, Tryd.ntmps19
    go_wp2
    go_ret
    exact ⟨rfl, rfl⟩)
  have Hs : Hid (sgn x y = if x < y then -1 else if y < x then 1 else 0) := hide rfl
  by_cases h1 : x < y
  · rw [if_pos h1] at Hs
    go_enter Tryd.func13, Tryd.ntmps13
    go_wp2_with (first
      | (go_at_call 19
         refine (HN.out _ _).mono ?_
         rintro e w1 ⟨rfl, rfl⟩))
    go_ret
    exact ⟨by rw [Hs.out]; rfl, rfl⟩
  · rw [if_neg h1] at Hs
    by_cases h2 : y < x
    · rw [if_pos h2] at Hs
      go_enter Tryd.func13, Tryd.ntmps13
      go_wp2_with (first
        | (go_at_call 19
           refine (HN.out _ _).mono ?_
           rintro e w1 ⟨rfl, rfl⟩))
      go_ret
      exact ⟨by rw [Hs.out]; rfl, rfl⟩
    · rw [if_neg h2] at Hs
      go_enter Tryd.func13, Tryd.ntmps13
      go_wp2_with (first
        | (go_at_call 19
           refine (HN.out _ _).mono ?_
           rintro e w1 ⟨rfl, rfl⟩))
      go_ret
      exact ⟨by rw [Hs.out]; rfl, rfl⟩
theorem byt_end (s : ByteArray) (i : Nat) (h : s.size ≤ i) : byt s i = 0 := by
  have h2 : ¬ i < s.data.size := by have : s.data.size = s.size := rfl; omega
  have e : s.get! i = s.data[i]! := rfl
  unfold byt
  rw [e, getElem!_neg s.data i h2]
  rfl
theorem byt_extract (s : ByteArray) (k j : Nat) (hk : k ≤ s.size) : byt (s.extract k s.size) j = byt s (k + j) := by
  have hsz : (s.extract k s.size).size = s.size - k := by rw [ByteArray.size_extract]; omega
  by_cases h : k + j < s.size
  · rw [← byt_at _ j (by omega), ← byt_at s (k + j) h, ByteArray.getElem_extract]
  · rw [byt_end _ j (by omega), byt_end _ (k + j) (by omega)]
theorem dec_extract (s : ByteArray) (k j : Nat) (hk : k ≤ s.size) : Utf8.decode (s.extract k s.size) j = Utf8.decode s (k + j) := by
  have hsz : (s.extract k s.size).size = s.size - k := by rw [ByteArray.size_extract]; omega
  rw [dec_eq, dec_eq, byt_extract s k _ hk, byt_extract s k _ hk, byt_extract s k _ hk, byt_extract s k _ hk, hsz, show s.size - k - j = s.size - (k + j) by omega]
  rfl
theorem runes_extract (s : ByteArray) (k : Nat) (hk : k ≤ s.size) : ∀ j, runes (s.extract k s.size) j = runes s (k + j) := by
  have hsz : (s.extract k s.size).size = s.size - k := by rw [ByteArray.size_extract]; omega
  intro j
  induction hm : s.size - (k + j) using Nat.strongRecOn generalizing j with
  | _ m ih =>
    by_cases hp : k + j < s.size
    · have e1 : wd (s.extract k s.size) j = wd s (k + j) := by unfold wd; rw [dec_extract s k j hk]
      have e2 : rn (s.extract k s.size) j = rn s (k + j) := by unfold rn; rw [dec_extract s k j hk]
      have hw := wd_pos s (k + j) hp
      rw [runes_step _ j (by omega), runes_step s (k + j) hp, e1, e2, ih (s.size - (k + (j + wd s (k + j)))) (by omega) _ rfl, Nat.add_assoc]
    · rw [runes_end _ j (by omega), runes_end s (k + j) hp]
theorem Tabs.below {w w' : World} (h : Tabs w) (hb : Below w.heap.size w w') : Tabs w' := by
  refine ⟨fun c hc => ?_, fun i hi => ?_⟩
  · have h1 := h.1 c hc
    exact (hb.cell (block_lt_of_cell h1)).trans h1
  · have h1 := (h.2 i hi).1
    have h2 := (h.2 i hi).2
    exact ⟨(hb.cell (block_lt_of_cell h1)).trans h1, (hb.cell (block_lt_of_cell h2)).trans h2⟩
theorem cmpL_lt (x y : Nat) (l m : List Nat) (h : x ≠ y) : cmpL (x :: l) (y :: m) = sgn x y := by
  simp only [cmpL, sgn]
  split
  · rfl
  · split
    · rfl
    · omega
theorem cmpL_eq (x : Nat) (l m : List Nat) : cmpL (x :: l) (x :: m) = cmpL l m := by simp [cmpL]
set_option maxHeartbeats 4000000 in
set_option maxRecDepth 100000 in
theorem compare_any (a b : ByteArray) (w : World) (ha : a.size ≤ 1000000000) (hb : b.size ≤ 1000000000) (hT : Tabs w) :
   Calls Tryd.prog 6 #[.string a, .string b] w fun e w' => e = .returned (.int .i64 (cmpL (runes a 0) (runes b 0))) ∧ Below w.heap.size w w' := by
  obtain ⟨C, hC⟩ : ∃ C, C = cmpL (runes a 0) (runes b 0) := ⟨_, rfl⟩
  rw [← hC]
  have Hend := hide (fun (s : ByteArray) (p : Nat) (h : ¬ p < s.size) => runes_end s p h)
  have Hstp := hide (fun (s : ByteArray) (p : Nat) (h : p < s.size) => runes_step s p h)
  obtain ⟨B, hB⟩ : ∃ B, B = w.heap.size := ⟨_, rfl⟩
  have HT := hide hT
  clear hT
  go_enter Tryd.func6, Tryd.ntmps6
  go_upto_region 2 with fail
  go_loopw [1] (fun z w' => ∃ (pos : Nat) (t : ByteArray), z = .string t ∧ t.size ≤ 1000000000 ∧ w'.heap[B]? = some (.stringIter a pos) ∧ Below B w w' ∧ Hid (C = cmpL (runes a pos) (runes t 0)) ∧ pos ≤ a.size) (fun _ w' => a.size - w'.iterPos B)
  case atStart =>
    rw [hB]
    exact ⟨0, b, rfl, hb, World.iter_heap _ _ _, below_iter _ _ _, hide hC, by omega⟩
  case round =>
    obtain ⟨pos, t, rfl, ht, hit, hbw, hc, hpa⟩ := hrel
    have htab : Tabs wr := HT.out.below (by rw [← hB]; exact hbw)
    by_cases hp : pos < a.size
    · obtain ⟨W, hW⟩ : ∃ W, W = wr.iterAt B a (pos + wd a pos) := ⟨_, rfl⟩
      have hnx : ∀ ty, (Instr.next (.pointer (some ⟨w.heap.size, 0, none⟩)) true ty).run Tryd.prog wr = .ok (.tuple #[.bool true, .int .i64 pos, .int .i32 (rn a pos)]) W := fun ty => by
        rw [hW, ← hB]; exact run_next_any_at wr B a pos ty hit hp
      have hwd := wd_pos a pos hp
      have hwl := wd_le a pos hp
      have hrl := rn_le a pos
      have hmeas := pos_of hit
      have hitw : W.heap[B]? = some (.stringIter a (pos + wd a pos)) := by rw [hW]; exact iterAt_heap _ _ _ _ _ hit
      have hbW : Below B w W := by rw [hW]; exact below_iterAt hbw (Nat.le_refl _) _ _
      have htW : Tabs W := HT.out.below (by rw [← hB]; exact hbW)
      have HF := hide (first_rune t W htW)
      have hBW : B < W.heap.size := (Array.getElem?_eq_some_iff.1 hitw).1
      have Hi := hide hitw
      have Hb := hide hbW
      have Hc : Hid (C = cmpL (rn a pos :: runes a (pos + wd a pos)) (runes t 0)) := hide (by rw [hc.out, Hstp.out a pos hp])
      clear hW hit hbw hc htab hitw hbW htW
      generalize wd a pos = V at *
      generalize rn a pos = X at *
      by_cases h0 : t.size = 0
      · have hd : Lib.decodeGo t = (65533, 0) := by unfold Lib.decodeGo; rw [if_pos h0]
        rw [hd] at HF
        have Hr : Hid (C = 1) := hide (by rw [Hc.out, Hend.out t 0 (by omega)]; rfl)
        clear Hc Hend Hstp hC
        go_wp2_with (first
          | (go_at_call 12
             refine HF.out.mono ?_
             rintro e w1 ⟨rfl, hb1⟩))
        go_ret
        exact ⟨by rw [Hr.out]; rfl, by rw [← hB]; exact Hb.out.trans (hb1.mono (by omega))⟩
      · have hd : Lib.decodeGo t = (rn t 0, wd t 0) := by unfold Lib.decodeGo; rw [if_neg h0]; rfl
        rw [hd] at HF
        have hw0 := wd_pos t 0 (by omega)
        have hw1 := wd_le t 0 (by omega)
        have hr0 := rn_le t 0
        have hex := runes_extract t (wd t 0) (by omega) 0
        have hsx : (t.extract (wd t 0) t.size).size ≤ 1000000000 := by rw [ByteArray.size_extract]; omega
        rw [Nat.add_zero] at hex
        have Hc2 : Hid (C = cmpL (X :: runes a (pos + V)) (rn t 0 :: runes (t.extract (wd t 0) t.size) 0)) := hide (by rw [Hc.out, Hstp.out t 0 (by omega), hex, Nat.zero_add])
        clear Hc Hend Hstp hC hex
        generalize wd t 0 = K at *
        generalize rn t 0 = Y at *
        by_cases hxy : X = Y
        · subst hxy
          have Hr : Hid (C = cmpL (runes a (pos + V)) (runes (t.extract K t.size) 0)) := hide (by rw [Hc2.out, cmpL_eq])
          have hk0 : ((K : Int) == 0) = false := by rw [beq_eq_false_iff_ne]; omega
          clear Hc2
          go_wp2_with (first
            | (go_at_call 12
               refine HF.out.mono ?_
               rintro e w1 ⟨rfl, hb1⟩))
          go_roundw
          case rel => exact ⟨pos + V, _, rfl, hsx, (hb1.block B hBW).trans Hi.out, Hb.out.trans (hb1.mono (by omega)), Hr, by omega⟩
          case measure => rw [pos_of ((hb1.block B hBW).trans Hi.out), hmeas]; omega
        · have Hr : Hid (C = sgn X Y) := hide (by rw [Hc2.out, cmpL_lt _ _ _ _ hxy])
          have HM := hide (fun wx => cmpRune_any X Y wx hrl hr0)
          have hk0 : ((K : Int) == 0) = false := by rw [beq_eq_false_iff_ne]; omega
          have hne : ((X : Int) != (Y : Int)) = true := by rw [bne_iff_ne]; omega
          clear Hc2
          go_wp2_with (first
            | (go_at_call 12
               refine HF.out.mono ?_
               rintro e w1 ⟨rfl, hb1⟩)
            | (go_at_call 13
               refine (HM.out _).mono ?_
               rintro e w2 ⟨rfl, rfl⟩))
          go_ret
          exact ⟨by rw [Hr.out]; rfl, by rw [← hB]; exact Hb.out.trans (hb1.mono (by omega))⟩
    · have hnx : ∀ ty, (Instr.next (.pointer (some ⟨w.heap.size, 0, none⟩)) true ty).run Tryd.prog wr = .ok (.tuple #[.bool false]) wr := fun ty => by
        rw [← hB]; exact run_next_end_at wr B a pos ty hit hp
      by_cases h0 : t.size = 0
      · have hs : t = ⟨#[]⟩ := ByteArray.ext (Array.eq_empty_of_size_eq_zero h0)
        have Hr : Hid (C = 0) := hide (by rw [hc.out, Hend.out a pos hp, Hend.out t 0 (by omega)]; rfl)
        have Hb := hide hbw
        clear hc Hend Hstp hC hit hbw htab
        subst hs
        go_wp2
        go_ret
        exact ⟨by rw [Hr.out]; rfl, by rw [← hB]; exact Hb.out⟩
      · have Hr : Hid (C = -1) := hide (by rw [hc.out, Hend.out a pos hp, Hstp.out t 0 (by omega)]; rfl)
        have Hb := hide hbw
        have hne : t.toList.isEmpty = false := by
          rw [Lib.toList_data]
          cases h : t.data.toList with
          | nil => exact absurd (by rw [Lib.size_eq, h]; rfl) h0
          | cons _ _ => rfl
        clear hc Hend Hstp hC hit hbw htab
        go_wp2
        go_ret
        exact ⟨by rw [Hr.out]; rfl, by rw [← hB]; exact Hb.out⟩
end Go.Proofs.YtkkbccaggnodhaaDoor.Label
