/-
  The contracts of the program's and the document's own Marks: how many of a text's runes are of each kind. Condition: the text has no more than 1,000,000,000 bytes.
-/
import Derived.Test.YtkkbccaggnodhaaLabelRunes
import Derived.Test.YtkkbccaggnodhaaLabelFit
namespace Go.Proofs.Ytkkbccaggnodhaa.Label
open Go.RowKit Go.Lib
set_option linter.unusedVariables false
/-- The four counts. -/
def four (l : List Nat) : Array Value := #[.int .i64 (marks l 0 : Nat), .int .i64 (marks l 1 : Nat), .int .i64 (marks l 2 : Nat), .int .i64 (marks l 3 : Nat)]
theorem four_other (l : List Nat) (x : Nat) (h : kindN x = 4) : four (l ++ [x]) = four l := by
  unfold four
  simp [marks_snoc, h]
theorem four_hit (l : List Nat) (x k : Nat) (h : kindN x = k) (hk : k < 4) : four (l ++ [x]) = (four l).setIfInBounds k (.int .i64 ((marks l k : Nat) + 1 : Int)) := by
  unfold four
  have hc : k = 0 ∨ k = 1 ∨ k = 2 ∨ k = 3 := by omega
  rcases hc with rfl | rfl | rfl | rfl <;> simp [marks_snoc, h]
theorem info_four : (Try.prog.info? 27).map (·.size) = some 4 := by kernel_rfl
/-- Two arrays that the call made. -/
def Two (w0 : World) (B : Nat) (w : World) (l : List Nat) : Prop := Blk w B 27 (four []) ∧ Blk w (B + 1) 27 (four l) ∧ Below B w0 w
theorem Two.other {w0 w : World} {B : Nat} {l : List Nat} (h : Two w0 B w l) (x : Nat) (hk : kindN x = 4) : Two w0 B w (l ++ [x]) := by
  unfold Two; rw [four_other l x hk]; exact h
theorem Two.hit {w0 w : World} {B : Nat} {l : List Nat} (h : Two w0 B w l) (x k : Nat) (hx : kindN x = k) (hk : k < 4) : Two w0 B (w.setCell ⟨B + 1, k, none⟩ (.int .i64 ((marks l k : Nat) + 1 : Int))) (l ++ [x]) := by
  unfold Two
  rw [four_hit l x k hx hk]
  exact ⟨h.1.far (by simp) _, h.2.1.set_ _ _, h.2.2.setCell (by simp) _⟩
theorem Two.iter {w0 w : World} {B : Nat} {l : List Nat} (h : Two w0 B w l) (s : ByteArray) (p : Nat) : Two w0 B (w.iterAt (B + 2) s p) l :=
  ⟨(iterAt_other w _ _ s p (by omega)).trans h.1, (iterAt_other w _ _ s p (by omega)).trans h.2.1, below_iterAt h.2.2 (by omega) s p⟩
theorem Two.drewN {w0 w : World} {B : Nat} {l : List Nat} (h : Two w0 B w l) (q : Nat) : Two w0 B (w.drewN q) l := ⟨h.1.drewN q, h.2.1.drewN q, below_drewN h.2.2 q⟩
theorem Two.cell {w0 w : World} {B : Nat} {l : List Nat} (h : Two w0 B w l) (k : Nat) (hk : k < 4) : w.cell? ⟨B + 1, k, none⟩ = some (.int .i64 (marks l k : Nat)) := by
  rw [h.2.1.cell]
  have hc : k = 0 ∨ k = 1 ∨ k = 2 ∨ k = 3 := by omega
  rcases hc with rfl | rfl | rfl | rfl <;> rfl
theorem iter_set {w : World} {B : Nat} {s : ByteArray} {p : Nat} (h : w.heap[B + 2]? = some (.stringIter s p)) (k : Nat) (u : Value) : (w.setCell ⟨B + 1, k, none⟩ u).heap[B + 2]? = some (.stringIter s p) :=
  (Below.heap_setCell w _ u _ (by simp)).trans h
set_option maxHeartbeats 4000000 in
set_option maxRecDepth 100000 in
theorem marks_any (s : ByteArray) (w : World) (hs : s.size ≤ 1000000000) :
   Calls Try.prog 9 #[.string s] w fun e w' => e = .returned (.agg (four (runes s 0))) ∧ Below w.heap.size w w' := by
  obtain ⟨L, hL⟩ : ∃ L, L = runes s 0 := ⟨_, rfl⟩
  rw [← hL]
  have hLl : L.length ≤ 1000000000 := by have := runes_len s 0 (by omega); rw [hL]; omega
  have Hend := hide (fun (p : Nat) (h : ¬ p < s.size) => runes_end s p h)
  have Hstp := hide (fun (p : Nat) (h : p < s.size) => runes_step s p h)
  obtain ⟨B, hB⟩ : ∃ B, B = w.heap.size := ⟨_, rfl⟩
  go_enter Try.func9, Try.ntmps9
  go_upto_region 3 with fail
  go_loopw [] (fun w' => ∃ (pos : Nat) (pre : List Nat), Two w B w' pre ∧ w'.heap[B + 2]? = some (.stringIter s pos) ∧ Hid (pre ++ runes s pos = L) ∧ pos ≤ s.size) (fun w' => s.size - w'.iterPos (B + 2))
  case atStart =>
    subst hB
    have e1 : (w.alloc (.cells (four []) 27)).heap.size = w.heap.size + 1 := by simp
    have e2 : ((w.alloc (.cells (four []) 27)).alloc (.cells (four []) 27)).heap.size = w.heap.size + 2 := by simp
    have h2 := (Blk.new (w.alloc (.cells (four []) 27)) 27 (four [])).alloc (.stringIter s 0)
    have h4 := World.iter_heap ((w.alloc (.cells (four []) 27)).alloc (.cells (four []) 27)) s 0
    rw [e1] at h2
    rw [e2] at h4
    exact ⟨0, [], ⟨((Blk.new w _ _).alloc _).alloc _, h2, (((Below.refl _ _).alloc (Nat.le_refl _) _).alloc (by simp) _).alloc (by simp; omega) _⟩, h4, hide (by rw [hL]; rfl), by omega⟩
  case round =>
    obtain ⟨pos, pre, htwo, hit, hc, hb⟩ := hrel
    have hpl : pre.length ≤ 1000000000 := by have := congrArg List.length hc.out; rw [List.length_append] at this; omega
    by_cases hp : pos < s.size
    · obtain ⟨W, hW⟩ : ∃ W, W = wr.iterAt (B + 2) s (pos + wd s pos) := ⟨_, rfl⟩
      have hnx : ∀ ty, (Instr.next (.pointer (some ⟨w.heap.size + 1 + 1, 0, none⟩)) true ty).run Try.prog wr = .ok (.tuple #[.bool true, .int .i64 pos, .int .i32 (rn s pos)]) W := fun ty => by
        rw [hW, ← hB]; exact run_next_any_at wr (B + 2) s pos ty hit hp
      have hwd := wd_pos s pos hp
      have hwl := wd_le s pos hp
      have hrl := rn_le s pos
      have htw : Two w B W pre := by rw [hW]; exact htwo.iter _ _
      have hitw : W.heap[B + 2]? = some (.stringIter s (pos + wd s pos)) := by rw [hW]; exact iterAt_heap _ _ _ _ _ hit
      have Hc : Hid (pre ++ [rn s pos] ++ runes s (pos + wd s pos) = L) := hide (by rw [← hc.out, Hstp.out pos hp]; simp)
      have HK := hide (fun wx => kind_any (rn s pos) wx hrl)
      have hkl := kindN_le (rn s pos)
      have Ht := hide htw
      have Hi := hide hitw
      have hmeas := pos_of hit
      have hml : ∀ k, marks pre k ≤ 1000000000 := fun k => Nat.le_trans (marks_le pre k) hpl
      clear hW htwo hit hc Hend Hstp hL
      have hKd : Hid (kindN (rn s pos) = kindN (rn s pos)) := hide rfl
      generalize hKk : kindN (rn s pos) = K at *
      have hKx := hide hKk
      clear hKk hKd
      generalize wd s pos = V at *
      generalize rn s pos = X at *
      by_cases hk4 : K = 4
      · subst hk4
        clear htw hitw hml
        go_wp2_with (first
          | (go_at_call 13
             refine (HK.out _).mono ?_
             rintro e w1 ⟨rfl, rfl⟩))
        go_roundw
        case rel => exact ⟨pos + V, pre ++ [X], Ht.out.other X hKx.out, Hi.out, Hc, by omega⟩
        case measure => rw [pos_of Hi.out, hmeas]; omega
      · have hc4 : K = 0 ∨ K = 1 ∨ K = 2 ∨ K = 3 := by omega
        rcases hc4 with rfl | rfl | rfl | rfl
        · have hcell := htw.cell 0 (by omega)
          have hm0 := hml 0
          have hfr := htw.2.1.frozen 0
          rw [hB] at hcell hfr
          clear htw hitw hml
          go_wp2_with (first
            | (go_at_call 13
               refine (HK.out _).mono ?_
               rintro e w1 ⟨rfl, rfl⟩))
          go_roundw
          case rel => exact ⟨pos + V, pre ++ [X], by rw [← hB]; exact Ht.out.hit X 0 hKx.out (by omega), by rw [← hB]; exact iter_set Hi.out _ _, Hc, by omega⟩
          case measure => rw [← hB, pos_of (iter_set Hi.out _ _), hmeas]; omega
        · have hcell := htw.cell 1 (by omega)
          have hm0 := hml 1
          have hfr := htw.2.1.frozen 1
          rw [hB] at hcell hfr
          clear htw hitw hml
          go_wp2_with (first
            | (go_at_call 13
               refine (HK.out _).mono ?_
               rintro e w1 ⟨rfl, rfl⟩))
          go_roundw
          case rel => exact ⟨pos + V, pre ++ [X], by rw [← hB]; exact Ht.out.hit X 1 hKx.out (by omega), by rw [← hB]; exact iter_set Hi.out _ _, Hc, by omega⟩
          case measure => rw [← hB, pos_of (iter_set Hi.out _ _), hmeas]; omega
        · have hcell := htw.cell 2 (by omega)
          have hm0 := hml 2
          have hfr := htw.2.1.frozen 2
          rw [hB] at hcell hfr
          clear htw hitw hml
          go_wp2_with (first
            | (go_at_call 13
               refine (HK.out _).mono ?_
               rintro e w1 ⟨rfl, rfl⟩))
          go_roundw
          case rel => exact ⟨pos + V, pre ++ [X], by rw [← hB]; exact Ht.out.hit X 2 hKx.out (by omega), by rw [← hB]; exact iter_set Hi.out _ _, Hc, by omega⟩
          case measure => rw [← hB, pos_of (iter_set Hi.out _ _), hmeas]; omega
        · have hcell := htw.cell 3 (by omega)
          have hm0 := hml 3
          have hfr := htw.2.1.frozen 3
          rw [hB] at hcell hfr
          clear htw hitw hml
          go_wp2_with (first
            | (go_at_call 13
               refine (HK.out _).mono ?_
               rintro e w1 ⟨rfl, rfl⟩))
          go_roundw
          case rel => exact ⟨pos + V, pre ++ [X], by rw [← hB]; exact Ht.out.hit X 3 hKx.out (by omega), by rw [← hB]; exact iter_set Hi.out _ _, Hc, by omega⟩
          case measure => rw [← hB, pos_of (iter_set Hi.out _ _), hmeas]; omega
    · have hnx : ∀ ty, (Instr.next (.pointer (some ⟨w.heap.size + 1 + 1, 0, none⟩)) true ty).run Try.prog wr = .ok (.tuple #[.bool false]) wr := fun ty => by
        rw [← hB]; exact run_next_end_at wr (B + 2) s pos ty hit hp
      have hpre : pre = L := by have := hc.out; rw [Hend.out pos hp, List.append_nil] at this; exact this
      subst hpre
      have hc0 := htwo.cell 0 (by omega)
      have hc1 := htwo.cell 1 (by omega)
      have hc2 := htwo.cell 2 (by omega)
      have hc3 := htwo.cell 3 (by omega)
      have hz0 : wr.cell? ⟨B, 0, none⟩ = some (.int .i64 0) := htwo.1.cell 0
      have hz1 : wr.cell? ⟨B, 1, none⟩ = some (.int .i64 0) := htwo.1.cell 1
      have hz2 : wr.cell? ⟨B, 2, none⟩ = some (.int .i64 0) := htwo.1.cell 2
      have hz3 : wr.cell? ⟨B, 3, none⟩ = some (.int .i64 0) := htwo.1.cell 3
      have hf0 := htwo.1.frozen 0
      have hf1 := htwo.1.frozen 1
      have hf2 := htwo.1.frozen 2
      have hf3 := htwo.1.frozen 3
      have Hb := hide htwo.2.2
      have Hset := hide ((((htwo.1.set_ 0 (.int .i64 (marks pre 0 : Nat))).set_ 1 (.int .i64 (marks pre 1 : Nat))).set_ 2 (.int .i64 (marks pre 2 : Nat))).set_ 3 (.int .i64 (marks pre 3 : Nat)))
      rw [hB] at hc0 hc1 hc2 hc3 hz0 hz1 hz2 hz3 hf0 hf1 hf2 hf3
      clear htwo hit hc Hend Hstp hL
      go_wp2
      try simp only [Exit.inBlock, Exit.then]
      refine bodyPost_ret (results_cell_row rfl _ _ B 27 (four pre) (0, 0) _ (by rw [hB]; rfl) (by rw [← hB]; exact Hset.out) Try.underlying27 rfl info_four) rfl ?_
      refine ⟨rfl, ?_⟩
      rw [← hB]
      exact (((Hb.out.setCell (by simp) _).setCell (by simp) _).setCell (by simp) _).setCell (by simp) _
end Go.Proofs.Ytkkbccaggnodhaa.Label
