/-
  The contract of the document's own Marks: how many of a text's runes are of each kind. Condition: the text has no more than 1,000,000,000 bytes.
-/
import Derived.Test.YtkkbccaggnodhaaLabelMarks
import Derived.Test.YtkkbccaggnodhaaLabelKindR
namespace Go.Proofs.Ytkkbccaggnodhaa.Label
open Go.RowKit Go.Lib
set_option linter.unusedVariables false
theorem Two.below {w0 w w' : World} {B : Nat} {l : List Nat} (h : Two w0 B w l) (hb : Below w.heap.size w w') (hB : B + 2 ≤ w.heap.size) (h0 : w0.heap.size ≤ w.heap.size) (hB0 : B ≤ w.heap.size) : Two w0 B w' l :=
  ⟨h.1.below hb (by omega), h.2.1.below hb (by omega), h.2.2.trans (hb.mono hB0)⟩
set_option maxHeartbeats 4000000 in
set_option maxRecDepth 100000 in
theorem refMarks_any (s : ByteArray) (w : World) (hs : s.size ≤ 1000000000) :
   Calls Try.prog 10 #[.string s] w fun e w' => e = .returned (.agg (four (runes s 0))) ∧ Below w.heap.size w w' := by
  have HR := hide (fun wx => refRunes_any s wx hs)
  have hLl : (runes s 0).length ≤ 1000000000 := by have := runes_len s 0 (by omega); omega
  have hmem := hide (runes_mem s 0)
  generalize runes s 0 = L at *
  obtain ⟨B, hB⟩ : ∃ B, B = w.heap.size := ⟨_, rfl⟩
  go_enter Try.func10, Try.ntmps10
  go_upto_region 2 with fail
  have e1 : (w.alloc (.cells #[.int .i64 0, .int .i64 0, .int .i64 0, .int .i64 0] 27)).heap.size = w.heap.size + 1 := by simp
  have hsz : ((w.alloc (.cells #[.int .i64 0, .int .i64 0, .int .i64 0, .int .i64 0] 27)).alloc (.cells #[.int .i64 0, .int .i64 0, .int .i64 0, .int .i64 0] 27)).heap.size = B + 2 := by rw [hB]; simp
  have h2 := Blk.new (w.alloc (.cells #[.int .i64 0, .int .i64 0, .int .i64 0, .int .i64 0] 27)) 27 (four [])
  rw [e1, ← hB] at h2
  have htwo0 : Two w B ((w.alloc (.cells #[.int .i64 0, .int .i64 0, .int .i64 0, .int .i64 0] 27)).alloc (.cells #[.int .i64 0, .int .i64 0, .int .i64 0, .int .i64 0] 27)) [] := ⟨by rw [hB]; exact (Blk.new w _ _).alloc _, h2, by rw [hB]; exact ((Below.refl _ _).alloc (Nat.le_refl _) _).alloc (by simp) _⟩
  clear e1 h2
  generalize hW : ((w.alloc (.cells #[.int .i64 0, .int .i64 0, .int .i64 0, .int .i64 0] 27)).alloc (.cells #[.int .i64 0, .int .i64 0, .int .i64 0, .int .i64 0] 27)) = W2 at *
  clear hW
  have HR2 := hide (HR.out W2)
  clear HR
  go_upto_region 4 with (first
    | (go_at_call 8
       refine HR2.out.mono ?_
       rintro e w1 ⟨v, rfl, ⟨A, c, rfl, _⟩, hb, hown0⟩))
  have htwo1 := htwo0.below hb (by omega) (by omega) (by omega)
  clear HR2 htwo0 hb
  go_loopw [5] (fun u wr => ∃ k : Nat, k ≤ L.length ∧ u = .int .i64 (k : Int) ∧ Two w B wr (L.take k) ∧ wr.ownsRow W2.heap.size 3 1 (.slice A L.length c) L.length (ncs L)) (fun u _ => L.length - (RowKit.intOf u).toNat)
  case atStart => exact ⟨0, by omega, rfl, htwo1, hown0⟩
  case round =>
    obtain ⟨k, hk, rfl, htwo, hown⟩ := hrel
    clear htwo1 hown0
    by_cases hlt : k < L.length
    · obtain ⟨ad, X, hA, hab, hx, hlc⟩ := ncs_at (Reads.of_own hown) hlt
      subst hA
      have hxm : X ≤ 1114111 := hmem.out X (List.mem_of_getElem? hx)
      have HK := hide (fun wx => refKind_any X wx hxm)
      have hkl := kindN_le X
      have hml : ∀ j, marks (L.take k) j ≤ 1000000000 := fun j => Nat.le_trans (marks_le _ j) (by rw [List.length_take]; omega)
      generalize hKk : kindN X = K at *
      have hKx := hide hKk
      clear hKk hmem
      by_cases hk4 : K = 4
      · subst hk4
        have Htw := hide (htwo.other X hKx.out)
        have Hown := hide hown
        clear htwo hml hown
        go_wp2_with (first
          | (go_at_call 15
             refine (HK.out _).mono ?_
             rintro e w2 ⟨rfl, rfl⟩))
        go_roundw
        case rel => exact ⟨k + 1, by omega, by go_num, by rw [take_snoc' L k X hx]; exact Htw.out, Hown.out⟩
        case measure => simp [RowKit.intOf]; omega
      · have hc4 : K = 0 ∨ K = 1 ∨ K = 2 ∨ K = 3 := by omega
        rcases hc4 with rfl | rfl | rfl | rfl
        · have hcell := htwo.cell 0 (by omega)
          have hm0 := hml 0
          have hfr := htwo.2.1.frozen 0
          have Htw := hide (htwo.hit X 0 hKx.out (by omega))
          have Hown := hide (ownsRow_setCell_below hown (a := ⟨B + 1, 0, none⟩) (by rw [hsz]; simp) (.int .i64 ((marks (L.take k) 0 : Nat) + 1 : Int)))
          rw [hB] at hcell hfr
          clear htwo hown hml
          go_wp2_with (first
            | (go_at_call 15
               refine (HK.out _).mono ?_
               rintro e w2 ⟨rfl, rfl⟩))
          go_roundw
          case rel => exact ⟨k + 1, by omega, by go_num, by rw [← hB, take_snoc' L k X hx]; exact Htw.out, by rw [← hB]; exact Hown.out⟩
          case measure => simp [RowKit.intOf]; omega
        · have hcell := htwo.cell 1 (by omega)
          have hm0 := hml 1
          have hfr := htwo.2.1.frozen 1
          have Htw := hide (htwo.hit X 1 hKx.out (by omega))
          have Hown := hide (ownsRow_setCell_below hown (a := ⟨B + 1, 1, none⟩) (by rw [hsz]; simp) (.int .i64 ((marks (L.take k) 1 : Nat) + 1 : Int)))
          rw [hB] at hcell hfr
          clear htwo hown hml
          go_wp2_with (first
            | (go_at_call 15
               refine (HK.out _).mono ?_
               rintro e w2 ⟨rfl, rfl⟩))
          go_roundw
          case rel => exact ⟨k + 1, by omega, by go_num, by rw [← hB, take_snoc' L k X hx]; exact Htw.out, by rw [← hB]; exact Hown.out⟩
          case measure => simp [RowKit.intOf]; omega
        · have hcell := htwo.cell 2 (by omega)
          have hm0 := hml 2
          have hfr := htwo.2.1.frozen 2
          have Htw := hide (htwo.hit X 2 hKx.out (by omega))
          have Hown := hide (ownsRow_setCell_below hown (a := ⟨B + 1, 2, none⟩) (by rw [hsz]; simp) (.int .i64 ((marks (L.take k) 2 : Nat) + 1 : Int)))
          rw [hB] at hcell hfr
          clear htwo hown hml
          go_wp2_with (first
            | (go_at_call 15
               refine (HK.out _).mono ?_
               rintro e w2 ⟨rfl, rfl⟩))
          go_roundw
          case rel => exact ⟨k + 1, by omega, by go_num, by rw [← hB, take_snoc' L k X hx]; exact Htw.out, by rw [← hB]; exact Hown.out⟩
          case measure => simp [RowKit.intOf]; omega
        · have hcell := htwo.cell 3 (by omega)
          have hm0 := hml 3
          have hfr := htwo.2.1.frozen 3
          have Htw := hide (htwo.hit X 3 hKx.out (by omega))
          have Hown := hide (ownsRow_setCell_below hown (a := ⟨B + 1, 3, none⟩) (by rw [hsz]; simp) (.int .i64 ((marks (L.take k) 3 : Nat) + 1 : Int)))
          rw [hB] at hcell hfr
          clear htwo hown hml
          go_wp2_with (first
            | (go_at_call 15
               refine (HK.out _).mono ?_
               rintro e w2 ⟨rfl, rfl⟩))
          go_roundw
          case rel => exact ⟨k + 1, by omega, by go_num, by rw [← hB, take_snoc' L k X hx]; exact Htw.out, by rw [← hB]; exact Hown.out⟩
          case measure => simp [RowKit.intOf]; omega
    · have hk2 : k = L.length := by omega
      subst hk2
      rw [List.take_length] at htwo
      have hc0 := htwo.cell 0 (by omega)
      have hc1 := htwo.cell 1 (by omega)
      have hc2 := htwo.cell 2 (by omega)
      have hc3 := htwo.cell 3 (by omega)
      have hz0 : wr.cell? ⟨B, 0, none⟩ = some (.int .i64 0) := htwo.1.cell 0
      have hz1 : wr.cell? ⟨B, 1, none⟩ = some (.int .i64 0) := htwo.1.cell 1
      have hz2 : wr.cell? ⟨B, 2, none⟩ = some (.int .i64 0) := htwo.1.cell 2
      have hz3 : wr.cell? ⟨B, 3, none⟩ = some (.int .i64 0) := htwo.1.cell 3
      have hf0 := htwo.1.frozen 0
      have hf1 := htwo.1.frozen 1
      have hf2 := htwo.1.frozen 2
      have hf3 := htwo.1.frozen 3
      have Hb := hide htwo.2.2
      have Hset := hide ((((htwo.1.set_ 0 (.int .i64 (marks L 0 : Nat))).set_ 1 (.int .i64 (marks L 1 : Nat))).set_ 2 (.int .i64 (marks L 2 : Nat))).set_ 3 (.int .i64 (marks L 3 : Nat)))
      rw [hB] at hc0 hc1 hc2 hc3 hz0 hz1 hz2 hz3 hf0 hf1 hf2 hf3
      clear htwo hown hmem
      go_wp2
      try simp only [Exit.inBlock, Exit.then]
      refine bodyPost_ret (results_cell_row rfl _ _ B 27 (four L) (0, 0) _ (by rw [hB]; rfl) (by rw [← hB]; exact Hset.out) Try.underlying27 rfl info_four) rfl ?_
      refine ⟨rfl, ?_⟩
      rw [← hB]
      exact (((Hb.out.setCell (by simp) _).setCell (by simp) _).setCell (by simp) _).setCell (by simp) _
end Go.Proofs.Ytkkbccaggnodhaa.Label
