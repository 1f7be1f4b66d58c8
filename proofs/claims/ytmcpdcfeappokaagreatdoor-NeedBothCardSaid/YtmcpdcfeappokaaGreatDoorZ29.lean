/-
  Some texts of this claim, one behind the other: RuleCmp. What each proves, and its condition, stands at its head.
-/
import Derived.Test.YtmcpdcfeappokaaGreatDoorZ24
import Derived.Test.YtmcpdcfeappokaaGreatDoorZ28
import Derived.Test.YtmcpdcfeappokaaGreatDoorZ18
/-
  The contracts of the program's Compare and leading: what a comparison has, as a set. Condition: the tables hold what the texts lay in them; at most 1,000,000 bytes.
-/
namespace Go.Proofs.YtmcpdcfeappokaaGreatDoor.Rule
open Go.RowKit Go.Lib Go.Proofs.YtmcpdcfeappokaaGreatDoor.Span
open Go.Proofs.YtmcpdcfeappokaaGreatDoor.Ver (txt readR afterN Tabs pA pB pC partsOf three parts_yes after_yes optV)
set_option linter.unusedVariables false
theorem leading_any (p : Nat) (w : World) (h : p < 1000000000) (hT : Tabs w) :
    Calls Tryz.prog 113 #[.int .i64 (p : Int)] w fun e w' => e = .returned (.int .i64 ((if p < 1000000 then 1 else 0 : Nat) : Int)) ∧ Below w.heap.size w w' := by
  have H := hide (parts_yes p w h hT)
  unfold partsOf three at H
  have hk : p < 1000000 ↔ ((pA p : Nat) : Int) = 0 := by unfold pA; omega
  by_cases hp : p < 1000000
  · rw [if_pos hp]
    have h0 := hk.1 hp
    rw [h0] at H
    clear hk h0 hp
    go_enter Tryz.func113, Tryz.ntmps113
    go_wp2_with (go_at_call 88
                 refine H.out.mono ?_
                 rintro e w1 ⟨rfl, hb1⟩)
    go_ret
    exact ⟨rfl, hb1.alloc hb1.size _⟩
  · rw [if_neg hp]
    have h0 : ¬ ((pA p : Nat) : Int) = 0 := fun e => hp (hk.2 e)
    have h1 : (((pA p : Nat) : Int) == 0) = false := beq_eq_false_iff_ne.2 h0
    generalize ((pA p : Nat) : Int) = a at *
    clear hk hp
    go_enter Tryz.func113, Tryz.ntmps113
    go_wp2_with (go_at_call 88
                 refine H.out.mono ?_
                 rintro e w1 ⟨rfl, hb1⟩)
    go_ret
    exact ⟨rfl, hb1.alloc hb1.size _⟩
theorem eqb (g m : List UInt8) : ((str g).toList == m) = decide (g = m) := by
  rw [str_toList g]
  by_cases h : g = m
  · subst h; simp
  · rw [decide_eq_false h]; exact beq_eq_false_iff_ne.2 h
/-- What a word has, as a set; none has nothing. -/
noncomputable def setO : Option S → List S
  | none => []
  | some i => setOf [i]
/-- The seven signs. -/
def isSign (g : List UInt8) : Prop := g = [61] ∨ g = [62, 61] ∨ g = [62] ∨ g = [60, 61] ∨ g = [60] ∨ g = [94] ∨ g = [126]
theorem ivOf_none {g : List UInt8} (h : ¬ isSign g) (p : Nat) : ivOf g p = none := by
  cases hi : ivOf g p with
  | none => rfl
  | some i => exact (h (ivOf_some hi)).elim
theorem after_range {p k : Nat} (hp : p < 1000000000) (hk : k = 0 ∨ k = 1) : afterN p k ≤ 1000000000 := by
  unfold afterN Ver.unitN
  rcases hk with rfl | rfl
  · simp; omega
  · simp; omega
set_option maxHeartbeats 1000000 in
set_option maxRecDepth 100000 in
theorem cmp_any (l : List UInt8) (w : World) (hl : l.length ≤ 1000000) (hT : Tabs w) :
    Calls Tryz.prog 108 #[.string (str l)] w fun e w' => ∃ A n c, e = .returned (.tuple #[.slice A n c, .bool (cmpI l).isSome]) ∧ SpIn w' w'.heap.size A n (setO (cmpI l)) ∧ Below w.heap.size w w' := by
  have Htr := hide (trim_any l w)
  have hsz : (str l).size = l.length := str_size l
  have hsum : (l.takeWhile sg).length + (l.dropWhile sg).length = l.length := by rw [← List.length_append, List.takeWhile_append_dropWhile]
  have hsl : ∀ Wx : World, (Instr.slice 9 (.string (str l)) none (some (.int .i64 ((str l).size - (str (l.dropWhile sg)).size : Int))) none).run Tryz.prog Wx = .ok (.string (str (l.takeWhile sg))) Wx := fun Wx => by
    rw [run_slice_string_h Wx 9 (str l) Tryz.underlying9 .i64 _ (by rw [str_size, str_size]; omega) (by rw [str_size, str_size]; omega)]
    have e : ((str l).size - (str (l.dropWhile sg)).size : Int).toNat = (l.takeWhile sg).length := by rw [str_size, str_size]; omega
    rw [e, str_extract]
    have e2 : List.take (l.takeWhile sg).length (l.takeWhile sg ++ l.dropWhile sg) = l.takeWhile sg := List.take_left
    rw [List.takeWhile_append_dropWhile] at e2
    rw [List.drop_zero, Nat.sub_zero, e2]
  have hd1 : (str (l.dropWhile sg)).size ≤ 1000000 := by rw [str_size]; omega
  have hd2 : (str (l.dropWhile sg)).size ≤ (str l).size := by rw [str_size, str_size]; omega
  have hd3 : (str l).size ≤ 1000000 := by rw [str_size]; exact hl
  have Hrd := hide (fun wx (hb : Below w.heap.size w wx) => Ver.read_any (str (l.dropWhile sg)) wx (by omega) (hT.below hb))
  have HT := hide hT
  have Hc : Hid (cmpI l = match readR (str (l.dropWhile sg)) with | none => none | some p => ivOf (l.takeWhile sg) p) := hide rfl
  generalize cmpI l = C at *
  clear hsum hsz hl hT
  cases hr : readR (str (l.dropWhile sg)) with
  | none =>
    rw [hr] at Hrd Hc
    obtain rfl := Hc.out
    generalize l.dropWhile sg = t at *
    generalize l.takeWhile sg = g at *
    clear hr
    go_enter Tryz.func108, Tryz.ntmps108
    go_wp2_with (first
      | (go_at_call 51
         refine Htr.out.mono ?_
         rintro e w1 ⟨rfl, hb1⟩)
      | (go_at_call 111
         refine (Hrd.out _ hb1).mono ?_
         rintro e w2 ⟨rfl, hb2⟩))
    go_ret2
    exact ⟨none, 0, 0, rfl, SpIn.nil _ _ _, hb1.trans (hb2.mono hb1.size)⟩
  | some p =>
    have hp := (Ver.read_some hr).2
    rw [hr] at Hrd Hc
    have Hc2 : Hid (C = ivOf (l.takeWhile sg) p) := Hc
    clear Hc hr
    generalize l.dropWhile sg = t at *
    generalize l.takeWhile sg = g at *
    have hv : ((optV (some p) : Int)) = (p : Int) := rfl
    rw [hv] at Hrd
    clear hv
    by_cases hg : isSign g
    · unfold isSign at hg
      rcases hg with hg | hg | hg | hg | hg | hg | hg
      · -- [61]
        have h1 : ((str g).toList == [61]) = true := (eqb g [61]).trans (by rw [hg]; decide)
        have HC : Hid (C = some ((p : Int), (p : Int) + 1)) := hide (by rw [Hc2.out, hg]; simp [ivOf])
        clear hg Hc2
        go_enter Tryz.func108, Tryz.ntmps108
        go_wp2_with (first
       | (go_at_call 51
          refine Htr.out.mono ?_
          rintro e w1 ⟨rfl, hb1⟩)
       | (go_at_call 111
          refine (Hrd.out _ hb1).mono ?_
          rintro e w2 ⟨rfl, hb2⟩
          have hbw := hb1.trans (hb2.mono hb1.size)
          have hbA := hbw.alloc hbw.size (.cells #[.int .i64 0, .int .i64 1000000000] 47)
          have hBk := Blk.new w2 47 #[.int .i64 0, .int .i64 1000000000])
       | (go_at_call 114
          refine (of_any (l := [((p : Int), (p : Int) + 1)]) _ ?_ (Nat.le_refl _) (by omega)).mono ?_
          · refine (spIn_of_reads (reads_one _ ((p : Int)) ((p : Int) + 1) _ ?_)).more ?_
            · simp
            · simp
          rintro e w5 ⟨A5, n5, c5, rfl, hN, hb5⟩))
        go_ret2
        rw [HC.out]
        exact ⟨_, _, _, rfl, hN.2.2.2, ((hbw.alloc hbw.size _).alloc (by simp; have := hbw.size; omega) _).trans (hb5.mono (by simp; have := hbw.size; omega))⟩
      · -- [62, 61]
        have h1 : ((str g).toList == [61]) = false := (eqb g [61]).trans (by rw [hg]; decide)
        have h2 : ((str g).toList == [62, 61]) = true := (eqb g [62, 61]).trans (by rw [hg]; decide)
        have HC : Hid (C = some ((p : Int), 1000000000)) := hide (by rw [Hc2.out, hg]; simp [ivOf])
        clear hg Hc2
        go_enter Tryz.func108, Tryz.ntmps108
        go_wp2_with (first
       | (go_at_call 51
          refine Htr.out.mono ?_
          rintro e w1 ⟨rfl, hb1⟩)
       | (go_at_call 111
          refine (Hrd.out _ hb1).mono ?_
          rintro e w2 ⟨rfl, hb2⟩
          have hbw := hb1.trans (hb2.mono hb1.size)
          have hbA := hbw.alloc hbw.size (.cells #[.int .i64 0, .int .i64 1000000000] 47)
          have hBk := Blk.new w2 47 #[.int .i64 0, .int .i64 1000000000])
       | (go_at_call 114
          refine (of_any (l := [((p : Int), 1000000000)]) _ ?_ (Nat.le_refl _) (by omega)).mono ?_
          · refine (spIn_of_reads (reads_one _ ((p : Int)) (1000000000) _ ?_)).more ?_
            · simp
            · simp
          rintro e w5 ⟨A5, n5, c5, rfl, hN, hb5⟩))
        go_ret2
        rw [HC.out]
        exact ⟨_, _, _, rfl, hN.2.2.2, ((hbw.alloc hbw.size _).alloc (by simp; have := hbw.size; omega) _).trans (hb5.mono (by simp; have := hbw.size; omega))⟩
      · -- [62]
        have h1 : ((str g).toList == [61]) = false := (eqb g [61]).trans (by rw [hg]; decide)
        have h2 : ((str g).toList == [62, 61]) = false := (eqb g [62, 61]).trans (by rw [hg]; decide)
        have h3 : ((str g).toList == [62]) = true := (eqb g [62]).trans (by rw [hg]; decide)
        have HC : Hid (C = some ((p : Int) + 1, 1000000000)) := hide (by rw [Hc2.out, hg]; simp [ivOf])
        clear hg Hc2
        go_enter Tryz.func108, Tryz.ntmps108
        go_wp2_with (first
       | (go_at_call 51
          refine Htr.out.mono ?_
          rintro e w1 ⟨rfl, hb1⟩)
       | (go_at_call 111
          refine (Hrd.out _ hb1).mono ?_
          rintro e w2 ⟨rfl, hb2⟩
          have hbw := hb1.trans (hb2.mono hb1.size)
          have hbA := hbw.alloc hbw.size (.cells #[.int .i64 0, .int .i64 1000000000] 47)
          have hBk := Blk.new w2 47 #[.int .i64 0, .int .i64 1000000000])
       | (go_at_call 114
          refine (of_any (l := [((p : Int) + 1, 1000000000)]) _ ?_ (Nat.le_refl _) (by omega)).mono ?_
          · refine (spIn_of_reads (reads_one _ ((p : Int) + 1) (1000000000) _ ?_)).more ?_
            · simp
            · simp
          rintro e w5 ⟨A5, n5, c5, rfl, hN, hb5⟩))
        go_ret2
        rw [HC.out]
        exact ⟨_, _, _, rfl, hN.2.2.2, ((hbw.alloc hbw.size _).alloc (by simp; have := hbw.size; omega) _).trans (hb5.mono (by simp; have := hbw.size; omega))⟩
      · -- [60, 61]
        have h1 : ((str g).toList == [61]) = false := (eqb g [61]).trans (by rw [hg]; decide)
        have h2 : ((str g).toList == [62, 61]) = false := (eqb g [62, 61]).trans (by rw [hg]; decide)
        have h3 : ((str g).toList == [62]) = false := (eqb g [62]).trans (by rw [hg]; decide)
        have h4 : ((str g).toList == [60, 61]) = true := (eqb g [60, 61]).trans (by rw [hg]; decide)
        have HC : Hid (C = some (0, (p : Int) + 1)) := hide (by rw [Hc2.out, hg]; simp [ivOf])
        clear hg Hc2
        go_enter Tryz.func108, Tryz.ntmps108
        go_wp2_with (first
       | (go_at_call 51
          refine Htr.out.mono ?_
          rintro e w1 ⟨rfl, hb1⟩)
       | (go_at_call 111
          refine (Hrd.out _ hb1).mono ?_
          rintro e w2 ⟨rfl, hb2⟩
          have hbw := hb1.trans (hb2.mono hb1.size)
          have hbA := hbw.alloc hbw.size (.cells #[.int .i64 0, .int .i64 1000000000] 47)
          have hBk := Blk.new w2 47 #[.int .i64 0, .int .i64 1000000000])
       | (go_at_call 114
          refine (of_any (l := [(0, (p : Int) + 1)]) _ ?_ (Nat.le_refl _) (by omega)).mono ?_
          · refine (spIn_of_reads (reads_one _ (0) ((p : Int) + 1) _ ?_)).more ?_
            · simp
            · simp
          rintro e w5 ⟨A5, n5, c5, rfl, hN, hb5⟩))
        go_ret2
        rw [HC.out]
        exact ⟨_, _, _, rfl, hN.2.2.2, ((hbw.alloc hbw.size _).alloc (by simp; have := hbw.size; omega) _).trans (hb5.mono (by simp; have := hbw.size; omega))⟩
      · -- [60]
        have h1 : ((str g).toList == [61]) = false := (eqb g [61]).trans (by rw [hg]; decide)
        have h2 : ((str g).toList == [62, 61]) = false := (eqb g [62, 61]).trans (by rw [hg]; decide)
        have h3 : ((str g).toList == [62]) = false := (eqb g [62]).trans (by rw [hg]; decide)
        have h4 : ((str g).toList == [60, 61]) = false := (eqb g [60, 61]).trans (by rw [hg]; decide)
        have h5 : ((str g).toList == [60]) = true := (eqb g [60]).trans (by rw [hg]; decide)
        have HC : Hid (C = some (0, (p : Int))) := hide (by rw [Hc2.out, hg]; simp [ivOf])
        clear hg Hc2
        go_enter Tryz.func108, Tryz.ntmps108
        go_wp2_with (first
       | (go_at_call 51
          refine Htr.out.mono ?_
          rintro e w1 ⟨rfl, hb1⟩)
       | (go_at_call 111
          refine (Hrd.out _ hb1).mono ?_
          rintro e w2 ⟨rfl, hb2⟩
          have hbw := hb1.trans (hb2.mono hb1.size)
          have hbA := hbw.alloc hbw.size (.cells #[.int .i64 0, .int .i64 1000000000] 47)
          have hBk := Blk.new w2 47 #[.int .i64 0, .int .i64 1000000000])
       | (go_at_call 114
          refine (of_any (l := [(0, (p : Int))]) _ ?_ (Nat.le_refl _) (by omega)).mono ?_
          · refine (spIn_of_reads (reads_one _ (0) ((p : Int)) _ ?_)).more ?_
            · simp
            · simp
          rintro e w5 ⟨A5, n5, c5, rfl, hN, hb5⟩))
        go_ret2
        rw [HC.out]
        exact ⟨_, _, _, rfl, hN.2.2.2, ((hbw.alloc hbw.size _).alloc (by simp; have := hbw.size; omega) _).trans (hb5.mono (by simp; have := hbw.size; omega))⟩
      · -- [94]
        have h1 : ((str g).toList == [61]) = false := (eqb g [61]).trans (by rw [hg]; decide)
        have h2 : ((str g).toList == [62, 61]) = false := (eqb g [62, 61]).trans (by rw [hg]; decide)
        have h3 : ((str g).toList == [62]) = false := (eqb g [62]).trans (by rw [hg]; decide)
        have h4 : ((str g).toList == [60, 61]) = false := (eqb g [60, 61]).trans (by rw [hg]; decide)
        have h5 : ((str g).toList == [60]) = false := (eqb g [60]).trans (by rw [hg]; decide)
        have h6 : ((str g).toList == [94]) = true := (eqb g [94]).trans (by rw [hg]; decide)
        have HC : Hid (C = some ((p : Int), ((afterN p (if p < 1000000 then 1 else 0) : Nat) : Int))) := hide (by rw [Hc2.out, hg]; simp [ivOf])
        clear hg Hc2
        have HL := hide (fun wx (hb : Below w.heap.size w wx) => leading_any p wx hp (HT.out.below hb))
        have hk3 : (if p < 1000000 then 1 else 0) = 0 ∨ (if p < 1000000 then 1 else 0) = 1 := by split <;> simp
        have hA3 := after_range hp hk3
        have HA := hide (fun wx (hb : Below w.heap.size w wx) => after_yes p (if p < 1000000 then 1 else 0) wx hp (by omega) (HT.out.below hb))
        generalize (if p < 1000000 then 1 else 0) = k at *
        generalize afterN p k = q at *
        go_enter Tryz.func108, Tryz.ntmps108
        go_wp2_with (first
       | (go_at_call 51
          refine Htr.out.mono ?_
          rintro e w1 ⟨rfl, hb1⟩)
       | (go_at_call 111
          refine (Hrd.out _ hb1).mono ?_
          rintro e w2 ⟨rfl, hb2⟩
          have hbw := hb1.trans (hb2.mono hb1.size)
          have hbA := hbw.alloc hbw.size (.cells #[.int .i64 0, .int .i64 1000000000] 47)
          have hBk := Blk.new w2 47 #[.int .i64 0, .int .i64 1000000000])
       | (go_at_call 113
          refine (HL.out _ hbA).mono ?_
          rintro e w3 ⟨rfl, hb3⟩
          have hbB := hbA.trans (hb3.mono hbA.size)
          have hB3 := hBk.below hb3 (by simp)
          have c0 := hB3.cell 0
          have c1 := hB3.cell 1
          have f0 := hB3.frozen 0
          have f1 := hB3.frozen 1)
       | (go_at_call 112
          refine (HA.out _ hbB).mono ?_
          rintro e w4 ⟨rfl, rfl⟩)
       | (go_at_call 114
          refine (of_any (l := [((p : Int), (q : Int))]) _ ?_ (Nat.le_refl _) (by omega)).mono ?_
          · refine (spIn_of_reads (reads_one _ ((p : Int)) ((q : Int)) _ ?_)).more ?_
            · simp
            · simp
          rintro e w5 ⟨A5, n5, c5, rfl, hN, hb5⟩))
        go_ret2
        rw [HC.out]
        exact ⟨_, _, _, rfl, hN.2.2.2, (((hbB.setCell (by simpa using hbw.size) _).setCell (by simpa using hbw.size) _).alloc (by simp; have := hbB.size; omega) _).trans (hb5.mono (by simp; have := hbB.size; omega))⟩
      · -- [126]
        have h1 : ((str g).toList == [61]) = false := (eqb g [61]).trans (by rw [hg]; decide)
        have h2 : ((str g).toList == [62, 61]) = false := (eqb g [62, 61]).trans (by rw [hg]; decide)
        have h3 : ((str g).toList == [62]) = false := (eqb g [62]).trans (by rw [hg]; decide)
        have h4 : ((str g).toList == [60, 61]) = false := (eqb g [60, 61]).trans (by rw [hg]; decide)
        have h5 : ((str g).toList == [60]) = false := (eqb g [60]).trans (by rw [hg]; decide)
        have h6 : ((str g).toList == [94]) = false := (eqb g [94]).trans (by rw [hg]; decide)
        have h7 : ((str g).toList == [126]) = true := (eqb g [126]).trans (by rw [hg]; decide)
        have HC : Hid (C = some ((p : Int), ((afterN p 1 : Nat) : Int))) := hide (by rw [Hc2.out, hg]; simp [ivOf])
        clear hg Hc2
        have hA3 := after_range hp (k := 1) (.inr rfl)
        have HA := hide (fun wx (hb : Below w.heap.size w wx) => after_yes p 1 wx hp (by omega) (HT.out.below hb))
        generalize afterN p 1 = q at *
        go_enter Tryz.func108, Tryz.ntmps108
        go_wp2_with (first
       | (go_at_call 51
          refine Htr.out.mono ?_
          rintro e w1 ⟨rfl, hb1⟩)
       | (go_at_call 111
          refine (Hrd.out _ hb1).mono ?_
          rintro e w2 ⟨rfl, hb2⟩
          have hbw := hb1.trans (hb2.mono hb1.size)
          have hbA := hbw.alloc hbw.size (.cells #[.int .i64 0, .int .i64 1000000000] 47)
          have hBk := Blk.new w2 47 #[.int .i64 0, .int .i64 1000000000])
       | (go_at_call 112
          refine (HA.out _ hbA).mono ?_
          rintro e w4 ⟨rfl, rfl⟩)
       | (go_at_call 114
          refine (of_any (l := [((p : Int), (q : Int))]) _ ?_ (Nat.le_refl _) (by omega)).mono ?_
          · refine (spIn_of_reads (reads_one _ ((p : Int)) ((q : Int)) _ ?_)).more ?_
            · simp
            · simp
          rintro e w5 ⟨A5, n5, c5, rfl, hN, hb5⟩))
        go_ret2
        rw [HC.out]
        exact ⟨_, _, _, rfl, hN.2.2.2, ((hbw.alloc hbw.size _).alloc (by simp; have := hbw.size; omega) _).trans (hb5.mono (by simp; have := hbw.size; omega))⟩
    · have HC : Hid (C = none) := hide (by rw [Hc2.out]; exact ivOf_none hg p)
      have h1 : ((str g).toList == [61]) = false := (eqb g [61]).trans (decide_eq_false fun e => hg (by unfold isSign; simp [e]))
      have h2 : ((str g).toList == [62, 61]) = false := (eqb g [62, 61]).trans (decide_eq_false fun e => hg (by unfold isSign; simp [e]))
      have h3 : ((str g).toList == [62]) = false := (eqb g [62]).trans (decide_eq_false fun e => hg (by unfold isSign; simp [e]))
      have h4 : ((str g).toList == [60, 61]) = false := (eqb g [60, 61]).trans (decide_eq_false fun e => hg (by unfold isSign; simp [e]))
      have h5 : ((str g).toList == [60]) = false := (eqb g [60]).trans (decide_eq_false fun e => hg (by unfold isSign; simp [e]))
      have h6 : ((str g).toList == [94]) = false := (eqb g [94]).trans (decide_eq_false fun e => hg (by unfold isSign; simp [e]))
      have h7 : ((str g).toList == [126]) = false := (eqb g [126]).trans (decide_eq_false fun e => hg (by unfold isSign; simp [e]))
      clear hg Hc2
      go_enter Tryz.func108, Tryz.ntmps108
      go_wp2_with (first
       | (go_at_call 51
          refine Htr.out.mono ?_
          rintro e w1 ⟨rfl, hb1⟩)
       | (go_at_call 111
          refine (Hrd.out _ hb1).mono ?_
          rintro e w2 ⟨rfl, hb2⟩
          have hbw := hb1.trans (hb2.mono hb1.size)))
      go_ret2
      rw [HC.out]
      exact ⟨none, 0, 0, rfl, SpIn.nil _ _ _, hbw.alloc hbw.size _⟩
end Go.Proofs.YtmcpdcfeappokaaGreatDoor.Rule
