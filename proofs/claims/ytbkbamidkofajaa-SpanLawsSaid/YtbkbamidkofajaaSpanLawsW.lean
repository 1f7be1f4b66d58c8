/-
  The walk of SpanLaws: any two sets. No condition.
-/
import Derived.Test.YtbkbamidkofajaaSpanOn
namespace Go.Proofs.Ytbkbamidkofajaa.Span
open Go Go.RowKit Go.Lib
set_option linter.unusedVariables false
theorem u_has (a b : List S) {p : Int} (h0 : 0 ≤ p) (h1 : p < 1000000000) : has (unionS a b) p = (has a p || has b p) := nf_in _ h0 h1
theorem m_has (a b : List S) {p : Int} (h0 : 0 ≤ p) (h1 : p < 1000000000) : has (meetS a b) p = (has a p && has b p) := nf_in _ h0 h1
theorem n_has (a : List S) {p : Int} (h0 : 0 ≤ p) (h1 : p < 1000000000) : has (notS a) p = !has a p := nf_in _ h0 h1
theorem not_not {a : List S} (ha : isSet (-1) a = true) : notS (notS a) = a := (is_nf ha fun p p0 p1 => by
  show _ = !has (notS a) p
  rw [n_has a p0 p1]; simp).symm
theorem not_union (a b : List S) : notS (unionS a b) = meetS (notS a) (notS b) := nf_congr fun p p0 p1 => by
  show (!has (unionS a b) p) = (has (notS a) p && has (notS b) p)
  rw [u_has a b p0 p1, n_has a p0 p1, n_has b p0 p1]; simp
theorem less_is (a b : List S) : meetS a (notS b) = lessS a b := nf_congr fun p p0 p1 => by
  show (has a p && has (notS b) p) = (has a p && !has b p)
  rw [n_has b p0 p1]
theorem meet_within (a b : List S) : lessS (meetS a b) a = [] := nf_nil.2 fun p p0 p1 => by
  show (has (meetS a b) p && !has a p) = false
  rw [m_has a b p0 p1]; cases has a p <;> cases has b p <;> rfl
theorem union_over (a b : List S) : lessS a (unionS a b) = [] := nf_nil.2 fun p p0 p1 => by
  show (has a p && !has (unionS a b) p) = false
  rw [u_has a b p0 p1]; cases has a p <;> cases has b p <;> rfl
theorem count_le {l : List S} (h : isSet (-1) l = true) : 0 ≤ count l ∧ count l ≤ 1000000001 := by
  have h1 := count_range h
  have h2 := end_le h (by omega)
  omega
set_option maxHeartbeats 4000000 in
set_option maxRecDepth 100000 in
theorem laws_walk (A0 : Option Addr) (n0 c0 : Nat) (a : List S) (A1 : Option Addr) (n1 c1 : Nat) (b : List S) (w : World) (hn0 : n0 ≤ 60) (hn1 : n1 ≤ 60)
    (h0 : SpOn w A0 n0 a) (h1 : SpOn w A1 n1 b) (hsa : isSet (-1) a = true) (hsb : isSet (-1) b = true) :
    Calls Try.prog 5 #[.slice A0 n0 c0, .slice A1 n1 c1] w fun e w' => e = .returned (.bool true) ∧ Below w.heap.size w w' := by
  have hbw : Below w.heap.size w w := Below.refl _ _
  have sa := hide hsa
  have sb := hide hsb
  have Hnn := hide (not_not hsa)
  have Hdm := hide (not_union a b)
  have Hma := hide (fun wx {A n c} (h : SpOn wx A n (meetS a b)) (h' : SpOn wx A0 n0 a) => within_on (c := c) (c' := c0) h h' (nf_set _) hsa)
  have Hau := hide (fun wx {A n c} (h' : SpOn wx A0 n0 a) (h : SpOn wx A n (unionS a b)) => within_on (c := c0) (c' := c) h' h hsa (nf_set _))
  have Hab := hide (fun wx (h : SpOn wx A0 n0 a) (h' : SpOn wx A1 n1 b) => within_on (c := c0) (c' := c1) h h' hsa hsb)
  have Hca := hide (fun wx (h : SpOn wx A0 n0 a) => count_on (c := c0) h hsa)
  have Hcb := hide (fun wx (h : SpOn wx A1 n1 b) => count_on (c := c1) h hsb)
  have Hcu := hide (fun wx {A n c} (h : SpOn wx A n (unionS a b)) => count_on (c := c) h (nf_set _))
  have Hcm := hide (fun wx {A n c} (h : SpOn wx A n (meetS a b)) => count_on (c := c) h (nf_set _))
  have Hcn := hide (fun wx {A n c} (h : SpOn wx A n (notS a)) => count_on (c := c) h (nf_set _))
  have ba := count_le hsa
  have bb := count_le hsb
  have bu := count_le (nf_set (kept (fun x y => x || y) a b))
  have bm := count_le (nf_set (kept (fun x y => x && y) a b))
  have bn := count_le (nf_set (kept (fun x y => !x) a []))
  have both := count_both hsa hsb (nf_set (kept (fun x y => x || y) a b)) (nf_set (kept (fun x y => x && y) a b)) (fun p p0 p1 => nf_in _ p0 p1) (fun p p0 p1 => nf_in _ p0 p1)
  have nots := count_not hsa (nf_set (kept (fun x y => !x) a [])) (fun p p0 p1 => nf_in _ p0 p1)
  change 0 ≤ count (unionS a b) ∧ _ ≤ _ at bu
  change 0 ≤ count (meetS a b) ∧ _ ≤ _ at bm
  change 0 ≤ count (notS a) ∧ _ ≤ _ at bn
  change count (unionS a b) + count (meetS a b) = _ at both
  change _ + count (notS a) = _ at nots
  have hlen : (((meetS a (notS b)).length : Int) == 0) = decide (lessS a b = []) := by
    rw [less_is, Bool.eq_iff_iff, decide_eq_true_iff, beq_iff_eq, ← List.length_eq_zero_iff]; omega
  have Hlen := hide hlen
  rw [decide_eq_true (meet_within a b)] at Hma
  rw [decide_eq_true (union_over a b)] at Hau
  clear hsa hsb hlen
  generalize decide (lessS a b = []) = r at *
  generalize count (unionS a b) = cu at *
  generalize count (meetS a b) = cm at *
  generalize count (notS a) = cn at *
  generalize count a = ca at *
  generalize count b = cb at *
  obtain ⟨ba0, ba1⟩ := ba
  obtain ⟨bb0, bb1⟩ := bb
  obtain ⟨bu0, bu1⟩ := bu
  obtain ⟨bm0, bm1⟩ := bm
  obtain ⟨bn0, bn1⟩ := bn
  have w1 : wrap64 (cu + cm) = ca + cb := by unfold wrap64; omega
  have w2 : wrap64 (ca + cb) = ca + cb := by unfold wrap64; omega
  have w3 : wrap64 (ca + cn) = 1000000000 := by unfold wrap64; omega
  clear both nots ba0 ba1 bb0 bb1 bu0 bu1 bm0 bm1 bn0 bn1
  go_enter Try.func5, Try.ntmps5
  go_wp2_with (first
    | (go_at_call_of 8 (Value.slice A4 n4 c4)
       refine (check_yes h4 (nf_set _)).mono ?_
       rintro e wn ⟨rfl, hbx⟩
       try have h0 := SpOn.on h0 hbx
       try have h1 := SpOn.on h1 hbx
       try have h2 := SpOn.on h2 hbx
       try have h3 := SpOn.on h3 hbx
       try have h4 := SpOn.on h4 hbx
       try have h5 := SpOn.on h5 hbx
       try have h6 := SpOn.on h6 hbx
       try have h7 := SpOn.on h7 hbx
       try have h8 := SpOn.on h8 hbx
       try have h9 := SpOn.on h9 hbx
       have hbw := hbw.trans (hbx.mono hbw.size))
    | (go_at_call_of 8 (Value.slice A3 n3 c3)
       refine (check_yes h3 (nf_set _)).mono ?_
       rintro e wn ⟨rfl, hbx⟩
       try have h0 := SpOn.on h0 hbx
       try have h1 := SpOn.on h1 hbx
       try have h2 := SpOn.on h2 hbx
       try have h3 := SpOn.on h3 hbx
       try have h4 := SpOn.on h4 hbx
       try have h5 := SpOn.on h5 hbx
       try have h6 := SpOn.on h6 hbx
       try have h7 := SpOn.on h7 hbx
       try have h8 := SpOn.on h8 hbx
       try have h9 := SpOn.on h9 hbx
       have hbw := hbw.trans (hbx.mono hbw.size))
    | (go_at_call_of 8 (Value.slice A2 n2 c2)
       refine (check_yes h2 (nf_set _)).mono ?_
       rintro e wn ⟨rfl, hbx⟩
       try have h0 := SpOn.on h0 hbx
       try have h1 := SpOn.on h1 hbx
       try have h2 := SpOn.on h2 hbx
       try have h3 := SpOn.on h3 hbx
       try have h4 := SpOn.on h4 hbx
       try have h5 := SpOn.on h5 hbx
       try have h6 := SpOn.on h6 hbx
       try have h7 := SpOn.on h7 hbx
       try have h8 := SpOn.on h8 hbx
       try have h9 := SpOn.on h9 hbx
       have hbw := hbw.trans (hbx.mono hbw.size))
    | (go_at_call_of 8 (Value.slice A1 n1 c1)
       refine (check_yes h1 sb.out).mono ?_
       rintro e wn ⟨rfl, hbx⟩
       try have h0 := SpOn.on h0 hbx
       try have h1 := SpOn.on h1 hbx
       try have h2 := SpOn.on h2 hbx
       try have h3 := SpOn.on h3 hbx
       try have h4 := SpOn.on h4 hbx
       try have h5 := SpOn.on h5 hbx
       try have h6 := SpOn.on h6 hbx
       try have h7 := SpOn.on h7 hbx
       try have h8 := SpOn.on h8 hbx
       try have h9 := SpOn.on h9 hbx
       have hbw := hbw.trans (hbx.mono hbw.size))
    | (go_at_call_of 8 (Value.slice A0 n0 c0)
       refine (check_yes h0 sa.out).mono ?_
       rintro e wn ⟨rfl, hbx⟩
       try have h0 := SpOn.on h0 hbx
       try have h1 := SpOn.on h1 hbx
       try have h2 := SpOn.on h2 hbx
       try have h3 := SpOn.on h3 hbx
       try have h4 := SpOn.on h4 hbx
       try have h5 := SpOn.on h5 hbx
       try have h6 := SpOn.on h6 hbx
       try have h7 := SpOn.on h7 hbx
       try have h8 := SpOn.on h8 hbx
       try have h9 := SpOn.on h9 hbx
       have hbw := hbw.trans (hbx.mono hbw.size))
    | (go_at_call 22
       refine (union_on h0 h1 sa.out sb.out).mono ?_
       rintro e wn ⟨A2, n2, c2, rfl, h2, hbx⟩
       try have h0 := SpOn.on h0 hbx
       try have h1 := SpOn.on h1 hbx
       try have h3 := SpOn.on h3 hbx
       try have h4 := SpOn.on h4 hbx
       try have h5 := SpOn.on h5 hbx
       try have h6 := SpOn.on h6 hbx
       try have h7 := SpOn.on h7 hbx
       try have h8 := SpOn.on h8 hbx
       try have h9 := SpOn.on h9 hbx
       have hbw := hbw.trans (hbx.mono hbw.size))
    | (go_at_call_of 24 (Value.slice A7 n7 c7)
       go_at_call_of 24 (Value.slice A4 n4 c4)
       refine (meet_on h4 h7 (nf_set _) (nf_set _)).mono ?_
       rintro e wn ⟨A8, n8, c8, rfl, h8, hbx⟩
       try have h0 := SpOn.on h0 hbx
       try have h1 := SpOn.on h1 hbx
       try have h2 := SpOn.on h2 hbx
       try have h3 := SpOn.on h3 hbx
       try have h4 := SpOn.on h4 hbx
       try have h5 := SpOn.on h5 hbx
       try have h6 := SpOn.on h6 hbx
       try have h7 := SpOn.on h7 hbx
       try have h9 := SpOn.on h9 hbx
       have hbw := hbw.trans (hbx.mono hbw.size))
    | (go_at_call_of 24 (Value.slice A7 n7 c7)
       go_at_call_of 24 (Value.slice A0 n0 c0)
       refine (meet_on h0 h7 sa.out (nf_set _)).mono ?_
       rintro e wn ⟨A9, n9, c9, rfl, h9, hbx⟩
       try have h0 := SpOn.on h0 hbx
       try have h1 := SpOn.on h1 hbx
       try have h2 := SpOn.on h2 hbx
       try have h3 := SpOn.on h3 hbx
       try have h4 := SpOn.on h4 hbx
       try have h5 := SpOn.on h5 hbx
       try have h6 := SpOn.on h6 hbx
       try have h7 := SpOn.on h7 hbx
       try have h8 := SpOn.on h8 hbx
       have hbw := hbw.trans (hbx.mono hbw.size)
       have hz9 : ((n9 : Int) == 0) = r := by rw [h9.len]; exact Hlen.out)
    | (go_at_call_of 24 (Value.slice A1 n1 c1)
       refine (meet_on h0 h1 sa.out sb.out).mono ?_
       rintro e wn ⟨A3, n3, c3, rfl, h3, hbx⟩
       try have h0 := SpOn.on h0 hbx
       try have h1 := SpOn.on h1 hbx
       try have h2 := SpOn.on h2 hbx
       try have h4 := SpOn.on h4 hbx
       try have h5 := SpOn.on h5 hbx
       try have h6 := SpOn.on h6 hbx
       try have h7 := SpOn.on h7 hbx
       try have h8 := SpOn.on h8 hbx
       try have h9 := SpOn.on h9 hbx
       have hbw := hbw.trans (hbx.mono hbw.size))
    | (go_at_call_of 26 (Value.slice A2 n2 c2)
       refine (not_on h2 (nf_set _)).mono ?_
       rintro e wn ⟨A6, n6, c6, rfl, h6, hbx⟩
       try have h0 := SpOn.on h0 hbx
       try have h1 := SpOn.on h1 hbx
       try have h2 := SpOn.on h2 hbx
       try have h3 := SpOn.on h3 hbx
       try have h4 := SpOn.on h4 hbx
       try have h5 := SpOn.on h5 hbx
       try have h7 := SpOn.on h7 hbx
       try have h8 := SpOn.on h8 hbx
       try have h9 := SpOn.on h9 hbx
       have hbw := hbw.trans (hbx.mono hbw.size))
    | (go_at_call_of 26 (Value.slice A4 n4 c4)
       refine (not_on h4 (nf_set _)).mono ?_
       rintro e wn ⟨A5, n5, c5, rfl, h5, hbx⟩
       try have h0 := SpOn.on h0 hbx
       try have h1 := SpOn.on h1 hbx
       try have h2 := SpOn.on h2 hbx
       try have h3 := SpOn.on h3 hbx
       try have h4 := SpOn.on h4 hbx
       try have h6 := SpOn.on h6 hbx
       try have h7 := SpOn.on h7 hbx
       try have h8 := SpOn.on h8 hbx
       try have h9 := SpOn.on h9 hbx
       have hbw := hbw.trans (hbx.mono hbw.size))
    | (go_at_call_of 26 (Value.slice A1 n1 c1)
       refine (not_on h1 sb.out).mono ?_
       rintro e wn ⟨A7, n7, c7, rfl, h7, hbx⟩
       try have h0 := SpOn.on h0 hbx
       try have h1 := SpOn.on h1 hbx
       try have h2 := SpOn.on h2 hbx
       try have h3 := SpOn.on h3 hbx
       try have h4 := SpOn.on h4 hbx
       try have h5 := SpOn.on h5 hbx
       try have h6 := SpOn.on h6 hbx
       try have h8 := SpOn.on h8 hbx
       try have h9 := SpOn.on h9 hbx
       have hbw := hbw.trans (hbx.mono hbw.size))
    | (go_at_call_of 26 (Value.slice A0 n0 c0)
       refine (not_on h0 sa.out).mono ?_
       rintro e wn ⟨A4, n4, c4, rfl, h4, hbx⟩
       try have h0 := SpOn.on h0 hbx
       try have h1 := SpOn.on h1 hbx
       try have h2 := SpOn.on h2 hbx
       try have h3 := SpOn.on h3 hbx
       try have h5 := SpOn.on h5 hbx
       try have h6 := SpOn.on h6 hbx
       try have h7 := SpOn.on h7 hbx
       try have h8 := SpOn.on h8 hbx
       try have h9 := SpOn.on h9 hbx
       have hbw := hbw.trans (hbx.mono hbw.size))
    | (go_at_call_of 13 (Value.slice A5 n5 c5)
       refine (same_yes h5 h0 (h5.le (nf_set _)) Hnn.out).mono ?_
       rintro e wn ⟨rfl, hbx⟩
       try have h0 := SpOn.on h0 hbx
       try have h1 := SpOn.on h1 hbx
       try have h2 := SpOn.on h2 hbx
       try have h3 := SpOn.on h3 hbx
       try have h4 := SpOn.on h4 hbx
       try have h5 := SpOn.on h5 hbx
       try have h6 := SpOn.on h6 hbx
       try have h7 := SpOn.on h7 hbx
       try have h8 := SpOn.on h8 hbx
       try have h9 := SpOn.on h9 hbx
       have hbw := hbw.trans (hbx.mono hbw.size))
    | (go_at_call_of 13 (Value.slice A8 n8 c8)
       refine (same_yes h6 h8 (h6.le (nf_set _)) Hdm.out).mono ?_
       rintro e wn ⟨rfl, hbx⟩
       try have h0 := SpOn.on h0 hbx
       try have h1 := SpOn.on h1 hbx
       try have h2 := SpOn.on h2 hbx
       try have h3 := SpOn.on h3 hbx
       try have h4 := SpOn.on h4 hbx
       try have h5 := SpOn.on h5 hbx
       try have h6 := SpOn.on h6 hbx
       try have h7 := SpOn.on h7 hbx
       try have h8 := SpOn.on h8 hbx
       try have h9 := SpOn.on h9 hbx
       have hbw := hbw.trans (hbx.mono hbw.size))
    | (go_at_call_of 28 (Value.slice A3 n3 c3)
       refine (Hma.out _ h3 h0).mono ?_
       rintro e wn ⟨rfl, hbx⟩
       try have h0 := SpOn.on h0 hbx
       try have h1 := SpOn.on h1 hbx
       try have h2 := SpOn.on h2 hbx
       try have h3 := SpOn.on h3 hbx
       try have h4 := SpOn.on h4 hbx
       try have h5 := SpOn.on h5 hbx
       try have h6 := SpOn.on h6 hbx
       try have h7 := SpOn.on h7 hbx
       try have h8 := SpOn.on h8 hbx
       try have h9 := SpOn.on h9 hbx
       have hbw := hbw.trans (hbx.mono hbw.size))
    | (go_at_call_of 28 (Value.slice A2 n2 c2)
       refine (Hau.out _ h0 h2).mono ?_
       rintro e wn ⟨rfl, hbx⟩
       try have h0 := SpOn.on h0 hbx
       try have h1 := SpOn.on h1 hbx
       try have h2 := SpOn.on h2 hbx
       try have h3 := SpOn.on h3 hbx
       try have h4 := SpOn.on h4 hbx
       try have h5 := SpOn.on h5 hbx
       try have h6 := SpOn.on h6 hbx
       try have h7 := SpOn.on h7 hbx
       try have h8 := SpOn.on h8 hbx
       try have h9 := SpOn.on h9 hbx
       have hbw := hbw.trans (hbx.mono hbw.size))
    | (go_at_call_of 28 (Value.slice A1 n1 c1)
       refine (Hab.out _ h0 h1).mono ?_
       rintro e wn ⟨rfl, hbx⟩
       try have h0 := SpOn.on h0 hbx
       try have h1 := SpOn.on h1 hbx
       try have h2 := SpOn.on h2 hbx
       try have h3 := SpOn.on h3 hbx
       try have h4 := SpOn.on h4 hbx
       try have h5 := SpOn.on h5 hbx
       try have h6 := SpOn.on h6 hbx
       try have h7 := SpOn.on h7 hbx
       try have h8 := SpOn.on h8 hbx
       try have h9 := SpOn.on h9 hbx
       have hbw := hbw.trans (hbx.mono hbw.size))
    | (go_at_call_of 30 (Value.slice A4 n4 c4)
       refine (Hcn.out _ h4).mono ?_
       rintro e wn ⟨rfl, hbx⟩
       try have h0 := SpOn.on h0 hbx
       try have h1 := SpOn.on h1 hbx
       try have h2 := SpOn.on h2 hbx
       try have h3 := SpOn.on h3 hbx
       try have h4 := SpOn.on h4 hbx
       try have h5 := SpOn.on h5 hbx
       try have h6 := SpOn.on h6 hbx
       try have h7 := SpOn.on h7 hbx
       try have h8 := SpOn.on h8 hbx
       try have h9 := SpOn.on h9 hbx
       have hbw := hbw.trans (hbx.mono hbw.size))
    | (go_at_call_of 30 (Value.slice A3 n3 c3)
       refine (Hcm.out _ h3).mono ?_
       rintro e wn ⟨rfl, hbx⟩
       try have h0 := SpOn.on h0 hbx
       try have h1 := SpOn.on h1 hbx
       try have h2 := SpOn.on h2 hbx
       try have h3 := SpOn.on h3 hbx
       try have h4 := SpOn.on h4 hbx
       try have h5 := SpOn.on h5 hbx
       try have h6 := SpOn.on h6 hbx
       try have h7 := SpOn.on h7 hbx
       try have h8 := SpOn.on h8 hbx
       try have h9 := SpOn.on h9 hbx
       have hbw := hbw.trans (hbx.mono hbw.size))
    | (go_at_call_of 30 (Value.slice A2 n2 c2)
       refine (Hcu.out _ h2).mono ?_
       rintro e wn ⟨rfl, hbx⟩
       try have h0 := SpOn.on h0 hbx
       try have h1 := SpOn.on h1 hbx
       try have h2 := SpOn.on h2 hbx
       try have h3 := SpOn.on h3 hbx
       try have h4 := SpOn.on h4 hbx
       try have h5 := SpOn.on h5 hbx
       try have h6 := SpOn.on h6 hbx
       try have h7 := SpOn.on h7 hbx
       try have h8 := SpOn.on h8 hbx
       try have h9 := SpOn.on h9 hbx
       have hbw := hbw.trans (hbx.mono hbw.size))
    | (go_at_call_of 30 (Value.slice A1 n1 c1)
       refine (Hcb.out _ h1).mono ?_
       rintro e wn ⟨rfl, hbx⟩
       try have h0 := SpOn.on h0 hbx
       try have h1 := SpOn.on h1 hbx
       try have h2 := SpOn.on h2 hbx
       try have h3 := SpOn.on h3 hbx
       try have h4 := SpOn.on h4 hbx
       try have h5 := SpOn.on h5 hbx
       try have h6 := SpOn.on h6 hbx
       try have h7 := SpOn.on h7 hbx
       try have h8 := SpOn.on h8 hbx
       try have h9 := SpOn.on h9 hbx
       have hbw := hbw.trans (hbx.mono hbw.size))
    | (go_at_call_of 30 (Value.slice A0 n0 c0)
       refine (Hca.out _ h0).mono ?_
       rintro e wn ⟨rfl, hbx⟩
       try have h0 := SpOn.on h0 hbx
       try have h1 := SpOn.on h1 hbx
       try have h2 := SpOn.on h2 hbx
       try have h3 := SpOn.on h3 hbx
       try have h4 := SpOn.on h4 hbx
       try have h5 := SpOn.on h5 hbx
       try have h6 := SpOn.on h6 hbx
       try have h7 := SpOn.on h7 hbx
       try have h8 := SpOn.on h8 hbx
       try have h9 := SpOn.on h9 hbx
       have hbw := hbw.trans (hbx.mono hbw.size))
    | (go_at_call 7
       refine (awake_any _).mono ?_
       rintro e wn ⟨rfl, hbx⟩
       have hbw := hbw.trans (hbx.mono hbw.size)))
  go_ret
  exact ⟨rfl, hbw⟩
set_option maxHeartbeats 4000000 in
set_option maxRecDepth 100000 in
theorem laws_skip (A0 : Option Addr) (n0 c0 : Nat) (a : List S) (A1 : Option Addr) (n1 c1 : Nat) (b : List S) (w : World)
    (h0 : SpOn w A0 n0 a) (h1 : SpOn w A1 n1 b) (h : n0 > 60 ∨ n1 > 60 ∨ isSet (-1) a = false ∨ isSet (-1) b = false) :
    Calls Try.prog 5 #[.slice A0 n0 c0, .slice A1 n1 c1] w fun e w' => e = .returned (.bool true) ∧ Below w.heap.size w w' := by
  have hbw : Below w.heap.size w w := Below.refl _ _
  have Hca := hide (fun wx (h : SpOn wx A0 n0 a) (hn : n0 ≤ 60) => check_on (c := c0) h (by omega))
  have Hcb := hide (fun wx (h : SpOn wx A1 n1 b) (hn : n1 ≤ 60) => check_on (c := c1) h (by omega))
  have Hr := hide h
  clear h
  generalize isSet (-1) a = x at *
  generalize isSet (-1) b = y at *
  by_cases g0 : n0 > 60
  · go_enter Try.func5, Try.ntmps5
    go_wp2_with (first
      | (go_at_call 7
         refine (awake_any _).mono ?_
         rintro e wn ⟨rfl, hbx⟩
         have hbw := hbw.trans (hbx.mono hbw.size)))
    go_ret
    exact ⟨rfl, hbw⟩
  · by_cases g1 : n1 > 60
    · go_enter Try.func5, Try.ntmps5
      go_wp2_with (first
        | (go_at_call 7
           refine (awake_any _).mono ?_
           rintro e wn ⟨rfl, hbx⟩
           have hbw := hbw.trans (hbx.mono hbw.size)))
      go_ret
      exact ⟨rfl, hbw⟩
    · have Ca := hide (fun wx h => Hca.out wx h (by omega))
      have Cb := hide (fun wx h => Hcb.out wx h (by omega))
      clear Hca Hcb
      cases x with
      | false =>
        go_enter Try.func5, Try.ntmps5
        go_wp2_with (first
          | (go_at_call_of 8 (Value.slice A1 n1 c1)
             refine (Cb.out _ h1).mono ?_
             rintro e wn ⟨rfl, hbx⟩
             try have h0 := SpOn.on h0 hbx
             try have h1 := SpOn.on h1 hbx
             have hbw := hbw.trans (hbx.mono hbw.size))
          | (go_at_call_of 8 (Value.slice A0 n0 c0)
             refine (Ca.out _ h0).mono ?_
             rintro e wn ⟨rfl, hbx⟩
             try have h0 := SpOn.on h0 hbx
             try have h1 := SpOn.on h1 hbx
             have hbw := hbw.trans (hbx.mono hbw.size))
          | (go_at_call 7
             refine (awake_any _).mono ?_
             rintro e wn ⟨rfl, hbx⟩
             have hbw := hbw.trans (hbx.mono hbw.size)))
        go_ret
        exact ⟨rfl, hbw⟩
      | true =>
        cases y with
        | false =>
          go_enter Try.func5, Try.ntmps5
          go_wp2_with (first
            | (go_at_call_of 8 (Value.slice A1 n1 c1)
               refine (Cb.out _ h1).mono ?_
               rintro e wn ⟨rfl, hbx⟩
               try have h0 := SpOn.on h0 hbx
               try have h1 := SpOn.on h1 hbx
               have hbw := hbw.trans (hbx.mono hbw.size))
            | (go_at_call_of 8 (Value.slice A0 n0 c0)
               refine (Ca.out _ h0).mono ?_
               rintro e wn ⟨rfl, hbx⟩
               try have h0 := SpOn.on h0 hbx
               try have h1 := SpOn.on h1 hbx
               have hbw := hbw.trans (hbx.mono hbw.size))
            | (go_at_call 7
               refine (awake_any _).mono ?_
               rintro e wn ⟨rfl, hbx⟩
               have hbw := hbw.trans (hbx.mono hbw.size)))
          go_ret
          exact ⟨rfl, hbw⟩
        | true =>
          rcases Hr.out with h | h | h | h
          · exact absurd h g0
          · exact absurd h g1
          · cases h
          · cases h
end Go.Proofs.Ytbkbamidkofajaa.Span
