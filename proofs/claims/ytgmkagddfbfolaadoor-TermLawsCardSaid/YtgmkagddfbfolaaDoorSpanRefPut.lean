/-
  The contract of the document's put: a place into places that rise, once. Condition: at most 1,000,000 places.
-/
import Derived.Test.YtgmkagddfbfolaaDoorSpanCells
namespace Go.Proofs.YtgmkagddfbfolaaDoor.Span
open Go.RowKit Go.Lib
set_option linter.unusedVariables false
/-- A place into places that rise. -/
def ins : List Int → Int → List Int
  | [], p => [p]
  | x :: t, p => if p < x then p :: x :: t else if p = x then p :: t else x :: ins t p
def clP (p : Int) : Int := min (max p 0) 1000000000
def refOut (done : Bool) (t : List Int) (q : Int) : List Int := if done then t else ins t q
theorem ref_low {t : List Int} {x q : Int} {l : List Int} (h : x :: t = l) (hq : q < x) : refOut false l q = [q] ++ [x] ++ refOut true t q := by
  subst h; simp [refOut, ins, hq]
theorem ref_at {t : List Int} {x q : Int} {l : List Int} (h : x :: t = l) (hq : q = x) : refOut false l q = [q] ++ refOut true t q := by
  subst h; subst hq; simp [refOut, ins]
theorem ref_high {t : List Int} {x q : Int} {l : List Int} (h : x :: t = l) (hq : ¬ q ≤ x) : refOut false l q = [x] ++ refOut false t q := by
  subst h; have h1 : ¬ q < x := by omega
  have h2 : ¬ q = x := by omega
  simp [refOut, ins, h1, h2]
theorem ref_done {t : List Int} {x q : Int} {l : List Int} (h : x :: t = l) : refOut true l q = [x] ++ refOut true t q := by
  subst h; rfl
theorem reads_int (w : World) (x : Int) (g : Nat) (hg : g = w.heap.size) : Reads (w.alloc (.cells #[.int .i64 x] 3)) (g + 1) 1 (some ⟨g, 0, none⟩) 1 (ics [x]) := by
  subst hg
  have h := Reads.newL w 3 #[.int .i64 x]
  exact ⟨rfl, fun _ => h.2 (by simp)⟩
theorem ics_append (l m : List Int) : ics (l ++ m) = ics l ++ ics m := by simp [ics]
theorem ics_one (l : List Int) : ∀ u ∈ ics l, u.oneCell' = true := by
  intro u hu
  simp only [ics, List.mem_map] at hu
  obtain ⟨b, _, rfl⟩ := hu
  rfl
set_option maxHeartbeats 4000000 in
set_option maxRecDepth 100000 in
theorem refPut_any {B n c : Nat} {A : Option Addr} {l : List Int} (p : Int) (w : World) (h : Reads w B 1 A n (ics l)) (hB : B ≤ w.heap.size) (hn : n ≤ 1000000) :
    Calls Tryd.prog 82 #[.slice A n c, .int .i64 p] w fun e w' => ∃ A' n' c', e = .returned (.slice A' n' c') ∧ Reads w' w'.heap.size 1 A' n' (ics (ins l (clP p))) ∧ Below w.heap.size w w' := by
  obtain ⟨i0, hi0, hz0, hz1, hz2⟩ := info_parts info_int
  have hl : l.length = n := by have := h.1; rw [ics_length] at this; omega
  obtain ⟨q, hq⟩ : ∃ q, q = clP p := ⟨_, rfl⟩
  rw [← hq]
  have Hq := hide hq
  clear hq
  generalize hR : ins l q = R
  have HR := hide hR
  clear hR
  go_enter Tryd.func82, Tryd.ntmps82
  go_upto_region 1 with fail
  go_cut [1] (fun u wx => u = .int .i64 q ∧ w = wx)
  case first =>
    go_wp2_with fail
    all_goals (go_meet; exact ⟨ret_i (by rw [Hq.out]; unfold clP; omega), rfl⟩)
  case rest =>
    obtain ⟨rfl, rfl⟩ := hcut
    go_wp2
    go_loopw [5, 6, 7] (fun v u6 u7 wr => ∃ (i : Nat) (done : Bool) (pre : List Int), i ≤ n ∧ u6 = .bool done ∧ u7 = .int .i64 (i : Int) ∧ wr.ownsRow w.heap.size 3 1 v pre.length (ics pre) ∧ (pre.length ≤ i ∨ done = true ∧ pre.length ≤ i + 1) ∧
      Hid (R = pre ++ refOut done (l.drop i) q) ∧ Below w.heap.size w wr) (fun _ _ u _ => n - (intOf u).toNat)
    case atStart => exact ⟨0, false, [], by omega, rfl, rfl, World.ownsRow_nil _ _ _ _, by simp, hide (by rw [← HR.out]; rfl), Below.refl _ _⟩
    case round =>
      obtain ⟨i, done, pre, hi, rfl, rfl, hown, hpl, hre, hb⟩ := hrel
      have hbs := hb.size
      by_cases hlt : i < n
      · obtain ⟨ad, x, rfl, hbl, hx, c1⟩ := ics_at (h.below (hb.mono hB)) hlt
        have c0 : w.cell? (ad.add i) = some (.int .i64 x) := (hb.cell (by rw [block_of_add]; omega)).symm.trans c1
        have hd := hide (show x :: l.drop (i + 1) = l.drop i by
          have hi' : i < l.length := (List.getElem?_eq_some_iff.1 hx).1
          rw [List.drop_eq_getElem_cons hi', (List.getElem?_eq_some_iff.1 hx).2])
        have r1 := hide (fun h => (ref_low (q := q) hd.out h))
        have r2 := hide (fun h => (ref_at (q := q) hd.out h))
        have r3 := hide (fun h => (ref_high (q := q) hd.out h))
        have r4 := hide (ref_done (q := q) hd.out)
        clear hx hd HR
        have hpl2 : pre.length ≤ i + 1 := by rcases hpl with h | h <;> omega
        cases done with
        | false =>
          have hpl3 : pre.length ≤ i := by
            rcases hpl with h | h
            · exact h
            · cases h.1
          clear hpl
          by_cases g1 : q ≤ x
          · by_cases g2 : q = x
            · have e := r2.out g2
              have E := hide e
              subst g2
              clear r1 r2 r3 r4 e g1
              go_wp2_with (at_builtin
                           refine wpList_append_any _ rfl (.tmp 27) (.tmp 29) _ rfl w.heap.size 3 i0 _ 1 8 Tryd.underlying48 hi0 hz0 hz1 hz2 rfl (by omega) _ _ _ rfl
                             (own_below hown ?_) _ _ 1 _ _ rfl (reads_int _ q _ (by simp)) (ics_one _) (by unfold maxLen; omega) (by omega) (by simp; omega) ?_
                           · exact (Below.refl _ _).alloc (Nat.le_refl _) _
                           intro v2 w2 hown2 hg2 hat2
                           have hb2 : Below w.heap.size w w2 := (hb.alloc hb.size _).grown hg2 (by simp; first | omega | (have := hb.size; omega)) (fun k hk => (hown.lt k hk).1)
                           have hs2 := hb2.size
                           have c3 : w2.cell? (ad.add i) = some (.int .i64 q) := (hb2.cell (by rw [block_of_add]; omega)).trans c0)
              rw [← ics_append] at hown2
              go_roundw
              case rel => exact ⟨i + 1, true, pre ++ [q], by omega, rfl, by go_num, by rw [List.length_append]; exact hown2, by rw [List.length_append, List.length_singleton]; first | exact .inl (by omega) | exact .inr ⟨rfl, by omega⟩, hide (by rw [hre.out, E.out]; simp), hb2⟩
              case measure => simp [intOf]; omega
            · have e := r1.out (by omega)
              have E := hide e
              have g3 : (q == x) = false := by simpa using g2
              clear r1 r2 r3 r4 e
              go_wp2_with (first
                | (at_builtin
                   have hx2 := hs2
                   refine wpList_append_any _ rfl (.tmp 37) (.tmp 42) _ rfl w.heap.size 3 i0 _ 1 8 Tryd.underlying48 hi0 hz0 hz1 hz2 rfl (by omega) _ _ _ rfl
                     (own_below hown2 ?_) _ _ 1 _ _ rfl (reads_int _ x _ (by simp)) (ics_one _) (by unfold maxLen; omega) (by omega) (by simp; omega) ?_
                   · exact (Below.refl _ _).alloc (Nat.le_refl _) _
                   intro v3 w3 hown3 hg3 hat3
                   have hb3 : Below w.heap.size w w3 := (hb2.alloc hb2.size _).grown hg3 (by simp; omega) (fun k hk => (hown2.lt k hk).1))
                | (at_builtin
                   refine wpList_append_any _ rfl (.tmp 27) (.tmp 29) _ rfl w.heap.size 3 i0 _ 1 8 Tryd.underlying48 hi0 hz0 hz1 hz2 rfl (by omega) _ _ _ rfl
                     (own_below hown ?_) _ _ 1 _ _ rfl (reads_int _ q _ (by simp)) (ics_one _) (by unfold maxLen; omega) (by omega) (by simp; omega) ?_
                   · exact (Below.refl _ _).alloc (Nat.le_refl _) _
                   intro v2 w2 hown2 hg2 hat2
                   have hb2 : Below w.heap.size w w2 := (hb.alloc hb.size _).grown hg2 (by simp; first | omega | (have := hb.size; omega)) (fun k hk => (hown.lt k hk).1)
                   have hs2 := hb2.size
                   have c3 : w2.cell? (ad.add i) = some (.int .i64 x) := (hb2.cell (by rw [block_of_add]; omega)).trans c0
                   clear c1))
              rw [← ics_append, ← ics_append] at hown3
              go_roundw
              case rel => exact ⟨i + 1, true, pre ++ [q] ++ [x], by omega, rfl, by go_num, by rw [List.length_append, List.length_append]; exact hown3, .inr ⟨rfl, by rw [List.length_append, List.length_append, List.length_singleton, List.length_singleton]; omega⟩, hide (by rw [hre.out, E.out]; simp), hb3⟩
              case measure => simp [intOf]; omega
          · have e := r3.out g1
            have E := hide e
            clear r1 r2 r3 r4 e
            go_wp2_with (at_builtin
                         refine wpList_append_any _ rfl (.tmp 37) (.tmp 42) _ rfl w.heap.size 3 i0 _ 1 8 Tryd.underlying48 hi0 hz0 hz1 hz2 rfl (by omega) _ _ _ rfl
                           (own_below hown ?_) _ _ 1 _ _ rfl (reads_int _ x _ (by simp)) (ics_one _) (by unfold maxLen; omega) (by omega) (by simp; omega) ?_
                         · exact (Below.refl _ _).alloc (Nat.le_refl _) _
                         intro v2 w2 hown2 hg2 hat2
                         have hb2 : Below w.heap.size w w2 := (hb.alloc hb.size _).grown hg2 (by simp; first | omega | (have := hb.size; omega)) (fun k hk => (hown.lt k hk).1)
                         have hs2 := hb2.size)
            rw [← ics_append] at hown2
            go_roundw
            case rel => exact ⟨i + 1, false, pre ++ [x], by omega, rfl, by go_num, by rw [List.length_append]; exact hown2, by rw [List.length_append, List.length_singleton]; first | exact .inl (by omega) | exact .inr ⟨rfl, by omega⟩, hide (by rw [hre.out, E.out]; simp), hb2⟩
            case measure => simp [intOf]; omega
        | true =>
          clear hpl
          have e := r4.out
          have E := hide e
          clear r1 r2 r3 r4 e
          go_wp2_with (at_builtin
                       refine wpList_append_any _ rfl (.tmp 37) (.tmp 42) _ rfl w.heap.size 3 i0 _ 1 8 Tryd.underlying48 hi0 hz0 hz1 hz2 rfl (by omega) _ _ _ rfl
                         (own_below hown ?_) _ _ 1 _ _ rfl (reads_int _ x _ (by simp)) (ics_one _) (by unfold maxLen; omega) (by omega) (by simp; omega) ?_
                       · exact (Below.refl _ _).alloc (Nat.le_refl _) _
                       intro v2 w2 hown2 hg2 hat2
                       have hb2 : Below w.heap.size w w2 := (hb.alloc hb.size _).grown hg2 (by simp; first | omega | (have := hb.size; omega)) (fun k hk => (hown.lt k hk).1)
                       have hs2 := hb2.size)
          rw [← ics_append] at hown2
          go_roundw
          case rel => exact ⟨i + 1, true, pre ++ [x], by omega, rfl, by go_num, by rw [List.length_append]; exact hown2, by rw [List.length_append, List.length_singleton]; first | exact .inl (by omega) | exact .inr ⟨rfl, by omega⟩, hide (by rw [hre.out, E.out]; simp), hb2⟩
          case measure => simp [intOf]; omega
      · have hi2 : i = n := by omega
        subst hi2
        have hpl2 : pre.length ≤ i + 1 := by rcases hpl with h | h <;> omega
        clear hpl
        have hdr : l.drop l.length = [] := List.drop_of_length_le (Nat.le_refl _)
        rw [← hl, hdr] at hre
        cases done with
        | true =>
          have e := hre.out
          simp only [refOut, if_true, List.append_nil] at e
          subst e
          clear hre HR hdr
          go_wp2
          go_ret
          obtain ⟨A', c', rfl, _, _, hr⟩ := own_form hown
          exact ⟨_, _, _, rfl, hr, hb⟩
        | false =>
          have e := hre.out
          simp only [refOut, Bool.false_eq_true, if_false, ins] at e
          have E := hide e
          clear hre HR e hdr
          go_wp2_with (at_builtin
                       refine wpList_append_any _ rfl (.tmp 46) (.tmp 48) _ rfl w.heap.size 3 i0 _ 1 8 Tryd.underlying48 hi0 hz0 hz1 hz2 rfl (by omega) _ _ _ rfl
                         (own_below hown ?_) _ _ 1 _ _ rfl (reads_int _ q _ (by simp)) (ics_one _) (by unfold maxLen; omega) (by omega) (by simp; omega) ?_
                       · exact (Below.refl _ _).alloc (Nat.le_refl _) _
                       intro v2 w2 hown2 hg2 hat2
                       have hb2 : Below w.heap.size w w2 := (hb.alloc hb.size _).grown hg2 (by simp; omega) (fun k hk => (hown.lt k hk).1))
          go_ret
          rw [← ics_append] at hown2
          obtain ⟨A', c', rfl, _, _, hr⟩ := own_form hown2
          exact ⟨_, _, _, rfl, by rw [E.out]; exact hr, hb2⟩
end Go.Proofs.YtgmkagddfbfolaaDoor.Span
