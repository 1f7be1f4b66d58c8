/-
  The contract of the document's Compare: what a comparison has, as a set. Condition: at most 1,000,000 bytes.
-/
import Derived.Test.YtcgcgjcjgpcfiaaGreatDoorRuleRefSign
import Derived.Test.YtcgcgjcjgpcfiaaGreatDoorSpanDo
import Derived.Test.YtcgcgjcjgpcfiaaGreatDoorVerAfter
namespace Go.Proofs.YtcgcgjcjgpcfiaaGreatDoor.Rule
open Go.RowKit Go.Lib Go.Proofs.YtcgcgjcjgpcfiaaGreatDoor.Span
open Go.Proofs.YtcgcgjcjgpcfiaaGreatDoor.Ver (rreadR afterN optV refAfter_yes)
set_option linter.unusedVariables false
theorem sgn_le : ∀ l : List UInt8, sgn l ≤ l.length ∧ sgn l ≤ 2
  | [] => by simp [sgn]
  | [a] => by simp only [sgn]; split <;> simp
  | a :: b :: r => by
    simp only [sgn, List.length_cons]
    repeat' split
    all_goals constructor <;> omega
theorem sgn_sign (l : List UInt8) (h : sgn l ≠ 0) : isSign (l.take (sgn l)) := by
  unfold isSign
  match l, h with
  | [], h => exact absurd rfl h
  | [a], h =>
    simp only [sgn] at h ⊢
    split at h
    · rename_i hs
      rw [if_pos hs]
      simp only [sg, Bool.or_eq_true, beq_iff_eq] at hs
      rcases hs with (((hs | hs) | hs) | hs) | hs <;> subst hs <;> simp
    · exact absurd rfl h
  | a :: b :: r, h =>
    simp only [sgn] at h ⊢
    split at h
    · rename_i hs
      rw [if_pos hs]
      obtain ⟨rfl, hs⟩ := hs
      rcases hs with rfl | rfl <;> simp
    · rename_i hn
      rw [if_neg hn]
      split at h
      · rename_i hs
        rw [if_pos hs]
        simp only [sg, Bool.or_eq_true, beq_iff_eq] at hs
        rcases hs with (((hs | hs) | hs) | hs) | hs <;> subst hs <;> simp
      · exact absurd rfl h
set_option maxHeartbeats 2000000 in
set_option maxRecDepth 100000 in
theorem refCmp_any (l : List UInt8) (w : World) (hl : l.length ≤ 1000000) :
    Calls Tryz.prog 8 #[.string (str l)] w (MakesB w (setO (cmpI l)) (cmpI l).isSome) := by
  unfold MakesB
  rw [← cmp_same]
  have Hsg := hide (sign_any l w hl)
  obtain ⟨hk1, hk2⟩ := sgn_le l
  have hsz : (str l).size = l.length := str_size l
  have hd3 : (str l).size ≤ 1000000 := by rw [str_size]; exact hl
  have hk3 : sgn l ≤ (str l).size := by rw [str_size]; exact hk1
  have hs1 : ∀ Wx : World, (Instr.slice 9 (.string (str l)) (some (.int .i64 ((sgn l : Nat) : Int))) none none).run Tryz.prog Wx = .ok (.string (str (l.drop (sgn l)))) Wx := fun Wx => by
    rw [run_slice_string_l Wx 9 (str l) Tryz.underlying9 .i64 _ (by omega) (by omega), Int.toNat_natCast, str_extract_end]
  have hs2 : ∀ Wx : World, (Instr.slice 9 (.string (str l)) none (some (.int .i64 ((sgn l : Nat) : Int))) none).run Tryz.prog Wx = .ok (.string (str (l.take (sgn l)))) Wx := fun Wx => by
    rw [run_slice_string_h Wx 9 (str l) Tryz.underlying9 .i64 _ (by omega) (by omega), Int.toNat_natCast, str_extract]
    rw [List.drop_zero, Nat.sub_zero]
  have Hrd := hide (fun wx => Ver.refRead_any (str (l.drop (sgn l))) wx)
  have Hsn := hide (sgn_sign l)
  have Hc : Hid (rcmpI l = match rreadR (str (l.drop (sgn l))) with | none => none | some p => if sgn l = 0 then none else ivOf (l.take (sgn l)) p) := hide rfl
  generalize rcmpI l = C at *
  clear hsz hl hk1
  cases hr : rreadR (str (l.drop (sgn l))) with
  | none =>
    rw [hr] at Hrd Hc
    obtain rfl := Hc.out
    clear hr Hsn
    generalize l.drop (sgn l) = t at *
    generalize l.take (sgn l) = g at *
    generalize sgn l = k at *
    by_cases hk : k = 0
    · have hk0 : ((k : Int) == 0) = true := beq_iff_eq.2 (by omega)
      clear hk
      go_enter Tryz.func8, Tryz.ntmps8
      go_wp2_with (first
        | (go_at_call 20
           refine Hsg.out.mono ?_
           rintro e w1 ⟨rfl, rfl⟩)
        | (go_at_call 21
           refine (Hrd.out _).mono ?_
           rintro e w2 ⟨rfl, hb2⟩))
      go_ret2
      exact ⟨none, 0, 0, rfl, SpIn.nil _ _ _, hb2⟩
    · have hk0 : ((k : Int) == 0) = false := beq_eq_false_iff_ne.2 (by omega)
      go_enter Tryz.func8, Tryz.ntmps8
      go_wp2_with (first
        | (go_at_call 20
           refine Hsg.out.mono ?_
           rintro e w1 ⟨rfl, rfl⟩)
        | (go_at_call 21
           refine (Hrd.out _).mono ?_
           rintro e w2 ⟨rfl, hb2⟩))
      go_ret2
      exact ⟨none, 0, 0, rfl, SpIn.nil _ _ _, hb2⟩
  | some p =>
    have hp := (Ver.rread_some hr).2
    rw [hr] at Hrd Hc
    have Hc2 : Hid (C = if sgn l = 0 then none else ivOf (l.take (sgn l)) p) := Hc
    clear Hc hr
    have hv : ((optV (some p) : Int)) = (p : Int) := rfl
    rw [hv] at Hrd
    clear hv
    generalize l.drop (sgn l) = t at *
    generalize l.take (sgn l) = g at *
    generalize sgn l = k at *
    by_cases hk : k = 0
    · have HC : Hid (C = none) := hide (by rw [Hc2.out, if_pos hk])
      have hk0 : ((k : Int) == 0) = true := beq_iff_eq.2 (by omega)
      clear Hc2 Hsn hk
      go_enter Tryz.func8, Tryz.ntmps8
      go_wp2_with (first
        | (go_at_call 20
           refine Hsg.out.mono ?_
           rintro e w1 ⟨rfl, rfl⟩)
        | (go_at_call 21
           refine (Hrd.out _).mono ?_
           rintro e w2 ⟨rfl, hb2⟩))
      go_ret2
      rw [HC.out]
      exact ⟨none, 0, 0, rfl, SpIn.nil _ _ _, hb2⟩
    · have hk0 : ((k : Int) == 0) = false := beq_eq_false_iff_ne.2 (by omega)
      have Hc3 : Hid (C = ivOf g p) := hide (by rw [Hc2.out, if_neg hk])
      have hg := Hsn.out hk
      clear Hc2 Hsn hk
      unfold isSign at hg
      rcases hg with hg | hg | hg | hg | hg | hg | hg
      · -- [61]
        have h1 : ((str g).toList == [61]) = true := (eqb g [61]).trans (by rw [hg]; decide)
        have h2 : ((str g).toList == [62, 61]) = false := (eqb g [62, 61]).trans (by rw [hg]; decide)
        have h3 : ((str g).toList == [62]) = false := (eqb g [62]).trans (by rw [hg]; decide)
        have h4 : ((str g).toList == [60, 61]) = false := (eqb g [60, 61]).trans (by rw [hg]; decide)
        have h5 : ((str g).toList == [60]) = false := (eqb g [60]).trans (by rw [hg]; decide)
        have h6 : ((str g).toList == [94]) = false := (eqb g [94]).trans (by rw [hg]; decide)
        have h7 : ((str g).toList == [126]) = false := (eqb g [126]).trans (by rw [hg]; decide)
        have HC : Hid (C = some ((p : Int), (p : Int) + 1)) := hide (by rw [Hc3.out, hg]; simp [ivOf])
        clear hg Hc3
        go_enter Tryz.func8, Tryz.ntmps8
        go_wp2_with (first
          | (go_at_call 20
             refine Hsg.out.mono ?_
             rintro e w1 ⟨rfl, rfl⟩)
          | (go_at_call 21
             refine (Hrd.out _).mono ?_
             rintro e w2 ⟨rfl, hb2⟩)
          | (go_at_call 23
             refine (refOf_any (a := [((p : Int), (p : Int) + 1)]) _ ?_ (Nat.le_refl _) (by omega)).mono ?_
             · refine (spIn_of_reads (reads_one _ ((p : Int)) ((p : Int) + 1) _ ?_)).more ?_
               · simp
               · simp
             rintro e w5 ⟨A5, n5, c5, rfl, hN, hb5⟩))
        go_ret2
        rw [HC.out]
        exact ⟨_, _, _, rfl, hN.2.2.2, (hb2.alloc hb2.size _).trans (hb5.mono (by simp; have := hb2.size; omega))⟩
      · -- [62, 61]
        have h1 : ((str g).toList == [61]) = false := (eqb g [61]).trans (by rw [hg]; decide)
        have h2 : ((str g).toList == [62, 61]) = true := (eqb g [62, 61]).trans (by rw [hg]; decide)
        have h3 : ((str g).toList == [62]) = false := (eqb g [62]).trans (by rw [hg]; decide)
        have h4 : ((str g).toList == [60, 61]) = false := (eqb g [60, 61]).trans (by rw [hg]; decide)
        have h5 : ((str g).toList == [60]) = false := (eqb g [60]).trans (by rw [hg]; decide)
        have h6 : ((str g).toList == [94]) = false := (eqb g [94]).trans (by rw [hg]; decide)
        have h7 : ((str g).toList == [126]) = false := (eqb g [126]).trans (by rw [hg]; decide)
        have HC : Hid (C = some ((p : Int), 1000000000)) := hide (by rw [Hc3.out, hg]; simp [ivOf])
        clear hg Hc3
        go_enter Tryz.func8, Tryz.ntmps8
        go_wp2_with (first
          | (go_at_call 20
             refine Hsg.out.mono ?_
             rintro e w1 ⟨rfl, rfl⟩)
          | (go_at_call 21
             refine (Hrd.out _).mono ?_
             rintro e w2 ⟨rfl, hb2⟩)
          | (go_at_call 23
             refine (refOf_any (a := [((p : Int), 1000000000)]) _ ?_ (Nat.le_refl _) (by omega)).mono ?_
             · refine (spIn_of_reads (reads_one _ ((p : Int)) (1000000000) _ ?_)).more ?_
               · simp
               · simp
             rintro e w5 ⟨A5, n5, c5, rfl, hN, hb5⟩))
        go_ret2
        rw [HC.out]
        exact ⟨_, _, _, rfl, hN.2.2.2, (hb2.alloc hb2.size _).trans (hb5.mono (by simp; have := hb2.size; omega))⟩
      · -- [62]
        have h1 : ((str g).toList == [61]) = false := (eqb g [61]).trans (by rw [hg]; decide)
        have h2 : ((str g).toList == [62, 61]) = false := (eqb g [62, 61]).trans (by rw [hg]; decide)
        have h3 : ((str g).toList == [62]) = true := (eqb g [62]).trans (by rw [hg]; decide)
        have h4 : ((str g).toList == [60, 61]) = false := (eqb g [60, 61]).trans (by rw [hg]; decide)
        have h5 : ((str g).toList == [60]) = false := (eqb g [60]).trans (by rw [hg]; decide)
        have h6 : ((str g).toList == [94]) = false := (eqb g [94]).trans (by rw [hg]; decide)
        have h7 : ((str g).toList == [126]) = false := (eqb g [126]).trans (by rw [hg]; decide)
        have HC : Hid (C = some ((p : Int) + 1, 1000000000)) := hide (by rw [Hc3.out, hg]; simp [ivOf])
        clear hg Hc3
        go_enter Tryz.func8, Tryz.ntmps8
        go_wp2_with (first
          | (go_at_call 20
             refine Hsg.out.mono ?_
             rintro e w1 ⟨rfl, rfl⟩)
          | (go_at_call 21
             refine (Hrd.out _).mono ?_
             rintro e w2 ⟨rfl, hb2⟩)
          | (go_at_call 23
             refine (refOf_any (a := [((p : Int) + 1, 1000000000)]) _ ?_ (Nat.le_refl _) (by omega)).mono ?_
             · refine (spIn_of_reads (reads_one _ ((p : Int) + 1) (1000000000) _ ?_)).more ?_
               · simp
               · simp
             rintro e w5 ⟨A5, n5, c5, rfl, hN, hb5⟩))
        go_ret2
        rw [HC.out]
        exact ⟨_, _, _, rfl, hN.2.2.2, (hb2.alloc hb2.size _).trans (hb5.mono (by simp; have := hb2.size; omega))⟩
      · -- [60, 61]
        have h1 : ((str g).toList == [61]) = false := (eqb g [61]).trans (by rw [hg]; decide)
        have h2 : ((str g).toList == [62, 61]) = false := (eqb g [62, 61]).trans (by rw [hg]; decide)
        have h3 : ((str g).toList == [62]) = false := (eqb g [62]).trans (by rw [hg]; decide)
        have h4 : ((str g).toList == [60, 61]) = true := (eqb g [60, 61]).trans (by rw [hg]; decide)
        have h5 : ((str g).toList == [60]) = false := (eqb g [60]).trans (by rw [hg]; decide)
        have h6 : ((str g).toList == [94]) = false := (eqb g [94]).trans (by rw [hg]; decide)
        have h7 : ((str g).toList == [126]) = false := (eqb g [126]).trans (by rw [hg]; decide)
        have HC : Hid (C = some (0, (p : Int) + 1)) := hide (by rw [Hc3.out, hg]; simp [ivOf])
        clear hg Hc3
        go_enter Tryz.func8, Tryz.ntmps8
        go_wp2_with (first
          | (go_at_call 20
             refine Hsg.out.mono ?_
             rintro e w1 ⟨rfl, rfl⟩)
          | (go_at_call 21
             refine (Hrd.out _).mono ?_
             rintro e w2 ⟨rfl, hb2⟩)
          | (go_at_call 23
             refine (refOf_any (a := [(0, (p : Int) + 1)]) _ ?_ (Nat.le_refl _) (by omega)).mono ?_
             · refine (spIn_of_reads (reads_one _ (0) ((p : Int) + 1) _ ?_)).more ?_
               · simp
               · simp
             rintro e w5 ⟨A5, n5, c5, rfl, hN, hb5⟩))
        go_ret2
        rw [HC.out]
        exact ⟨_, _, _, rfl, hN.2.2.2, (hb2.alloc hb2.size _).trans (hb5.mono (by simp; have := hb2.size; omega))⟩
      · -- [60]
        have h1 : ((str g).toList == [61]) = false := (eqb g [61]).trans (by rw [hg]; decide)
        have h2 : ((str g).toList == [62, 61]) = false := (eqb g [62, 61]).trans (by rw [hg]; decide)
        have h3 : ((str g).toList == [62]) = false := (eqb g [62]).trans (by rw [hg]; decide)
        have h4 : ((str g).toList == [60, 61]) = false := (eqb g [60, 61]).trans (by rw [hg]; decide)
        have h5 : ((str g).toList == [60]) = true := (eqb g [60]).trans (by rw [hg]; decide)
        have h6 : ((str g).toList == [94]) = false := (eqb g [94]).trans (by rw [hg]; decide)
        have h7 : ((str g).toList == [126]) = false := (eqb g [126]).trans (by rw [hg]; decide)
        have HC : Hid (C = some (0, (p : Int))) := hide (by rw [Hc3.out, hg]; simp [ivOf])
        clear hg Hc3
        go_enter Tryz.func8, Tryz.ntmps8
        go_wp2_with (first
          | (go_at_call 20
             refine Hsg.out.mono ?_
             rintro e w1 ⟨rfl, rfl⟩)
          | (go_at_call 21
             refine (Hrd.out _).mono ?_
             rintro e w2 ⟨rfl, hb2⟩)
          | (go_at_call 23
             refine (refOf_any (a := [(0, (p : Int))]) _ ?_ (Nat.le_refl _) (by omega)).mono ?_
             · refine (spIn_of_reads (reads_one _ (0) ((p : Int)) _ ?_)).more ?_
               · simp
               · simp
             rintro e w5 ⟨A5, n5, c5, rfl, hN, hb5⟩))
        go_ret2
        rw [HC.out]
        exact ⟨_, _, _, rfl, hN.2.2.2, (hb2.alloc hb2.size _).trans (hb5.mono (by simp; have := hb2.size; omega))⟩
      · -- [94]
        have h1 : ((str g).toList == [61]) = false := (eqb g [61]).trans (by rw [hg]; decide)
        have h2 : ((str g).toList == [62, 61]) = false := (eqb g [62, 61]).trans (by rw [hg]; decide)
        have h3 : ((str g).toList == [62]) = false := (eqb g [62]).trans (by rw [hg]; decide)
        have h4 : ((str g).toList == [60, 61]) = false := (eqb g [60, 61]).trans (by rw [hg]; decide)
        have h5 : ((str g).toList == [60]) = false := (eqb g [60]).trans (by rw [hg]; decide)
        have h6 : ((str g).toList == [94]) = true := (eqb g [94]).trans (by rw [hg]; decide)
        have h7 : ((str g).toList == [126]) = false := (eqb g [126]).trans (by rw [hg]; decide)
        by_cases hm : p < 1000000
        · have HA := hide (fun wx => refAfter_yes p 1 wx hp (by omega))
          have hA3 := after_range hp (k := 1) (.inr rfl)
          have HC : Hid (C = some ((p : Int), ((afterN p 1 : Nat) : Int))) := hide (by rw [Hc3.out, hg]; simp [ivOf, hm])
          have hmi : (p : Int) < 1000000 := by omega
          clear hm
          generalize afterN p 1 = q at *
          clear hp
          clear hg Hc3
          generalize ((p : Nat) : Int) = P at *
          go_enter Tryz.func8, Tryz.ntmps8
          go_upto_region 16 with (first
            | (go_at_call 20
               refine Hsg.out.mono ?_
               rintro e w1 ⟨rfl, rfl⟩)
            | (go_at_call 21
               refine (Hrd.out _).mono ?_
               rintro e w2 ⟨rfl, hb2⟩))
          go_wp2_with (first
            | (go_at_call 22
               refine (HA.out _).mono ?_
               rintro e w4 ⟨rfl, rfl⟩)
            | (go_at_call 23
               refine (refOf_any (a := [(P, (q : Int))]) _ ?_ (Nat.le_refl _) (by omega)).mono ?_
               · refine (spIn_of_reads (reads_one _ (P) ((q : Int)) _ ?_)).more ?_
                 · simp
                 · simp
               rintro e w5 ⟨A5, n5, c5, rfl, hN, hb5⟩))
          go_ret2
          rw [HC.out]
          exact ⟨_, _, _, rfl, hN.2.2.2, (hb2.alloc hb2.size _).trans (hb5.mono (by simp; have := hb2.size; omega))⟩
        · have HA := hide (fun wx => refAfter_yes p 0 wx hp (by omega))
          have hA3 := after_range hp (k := 0) (.inl rfl)
          have HC : Hid (C = some ((p : Int), ((afterN p 0 : Nat) : Int))) := hide (by rw [Hc3.out, hg]; simp [ivOf, hm])
          have hmi : 1000000 ≤ (p : Int) := by omega
          clear hm
          generalize afterN p 0 = q at *
          clear hp
          clear hg Hc3
          generalize ((p : Nat) : Int) = P at *
          go_enter Tryz.func8, Tryz.ntmps8
          go_upto_region 16 with (first
            | (go_at_call 20
               refine Hsg.out.mono ?_
               rintro e w1 ⟨rfl, rfl⟩)
            | (go_at_call 21
               refine (Hrd.out _).mono ?_
               rintro e w2 ⟨rfl, hb2⟩))
          go_wp2_with (first
            | (go_at_call 22
               refine (HA.out _).mono ?_
               rintro e w4 ⟨rfl, rfl⟩)
            | (go_at_call 23
               refine (refOf_any (a := [(P, (q : Int))]) _ ?_ (Nat.le_refl _) (by omega)).mono ?_
               · refine (spIn_of_reads (reads_one _ (P) ((q : Int)) _ ?_)).more ?_
                 · simp
                 · simp
               rintro e w5 ⟨A5, n5, c5, rfl, hN, hb5⟩))
          go_ret2
          rw [HC.out]
          exact ⟨_, _, _, rfl, hN.2.2.2, (hb2.alloc hb2.size _).trans (hb5.mono (by simp; have := hb2.size; omega))⟩
      · -- [126]
        have h1 : ((str g).toList == [61]) = false := (eqb g [61]).trans (by rw [hg]; decide)
        have h2 : ((str g).toList == [62, 61]) = false := (eqb g [62, 61]).trans (by rw [hg]; decide)
        have h3 : ((str g).toList == [62]) = false := (eqb g [62]).trans (by rw [hg]; decide)
        have h4 : ((str g).toList == [60, 61]) = false := (eqb g [60, 61]).trans (by rw [hg]; decide)
        have h5 : ((str g).toList == [60]) = false := (eqb g [60]).trans (by rw [hg]; decide)
        have h6 : ((str g).toList == [94]) = false := (eqb g [94]).trans (by rw [hg]; decide)
        have h7 : ((str g).toList == [126]) = true := (eqb g [126]).trans (by rw [hg]; decide)
        have HA := hide (fun wx => refAfter_yes p 1 wx hp (by omega))
        have hA3 := after_range hp (k := 1) (.inr rfl)
        have HC : Hid (C = some ((p : Int), ((afterN p 1 : Nat) : Int))) := hide (by rw [Hc3.out, hg]; simp [ivOf])
        generalize afterN p 1 = q at *
        clear hg Hc3
        go_enter Tryz.func8, Tryz.ntmps8
        go_wp2_with (first
          | (go_at_call 20
             refine Hsg.out.mono ?_
             rintro e w1 ⟨rfl, rfl⟩)
          | (go_at_call 21
             refine (Hrd.out _).mono ?_
             rintro e w2 ⟨rfl, hb2⟩)
          | (go_at_call 22
             refine (HA.out _).mono ?_
             rintro e w4 ⟨rfl, rfl⟩)
          | (go_at_call 23
             refine (refOf_any (a := [((p : Int), (q : Int))]) _ ?_ (Nat.le_refl _) (by omega)).mono ?_
             · refine (spIn_of_reads (reads_one _ ((p : Int)) ((q : Int)) _ ?_)).more ?_
               · simp
               · simp
             rintro e w5 ⟨A5, n5, c5, rfl, hN, hb5⟩))
        go_ret2
        rw [HC.out]
        exact ⟨_, _, _, rfl, hN.2.2.2, (hb2.alloc hb2.size _).trans (hb5.mono (by simp; have := hb2.size; omega))⟩
end Go.Proofs.YtcgcgjcjgpcfiaaGreatDoor.Rule
