/-
  The walk of the law VerStands: it returns true, and leaves all memory that was there as it was. Condition: the tables hold what the texts lay in them.
-/
import Derived.Test.YtmaeeibgdjkonaaDoorVerPlacesW
namespace Go.Proofs.YtmaeeibgdjkonaaDoor.Ver
open Go.RowKit Go.Lib
set_option linter.unusedVariables false
set_option maxHeartbeats 1600000 in
set_option maxRecDepth 100000 in
theorem stands_skip (x0 x1 x2 y0 y1 y2 t : Int) (w : World) (h : ¬ (Fits x0 x1 x2 ∧ Fits y0 y1 y2)) (hT : Tabs w) :
    Calls Tryd.prog 5 #[.agg (three x0 x1 x2), .agg (three y0 y1 y2), .int .u8 t] w fun e w' => e = .returned (.bool true) ∧ Below w.heap.size w w' := by
  have H1 := hide (fun wx (hb : Below w.heap.size w wx) => place_any x0 x1 x2 wx (hT.below hb))
  have H2 := hide (fun wx (hb : Below w.heap.size w wx) => place_any y0 y1 y2 wx (hT.below hb))
  have HA := hide (fun wx (hb : Below w.heap.size w wx) => awake_any wx (hT.below hb))
  have hb0 : Below w.heap.size w ((w.alloc (Obj.cells #[Value.int IntKind.i64 x0, Value.int IntKind.i64 x1, Value.int IntKind.i64 x2] 22)).alloc (Obj.cells #[Value.int IntKind.i64 y0, Value.int IntKind.i64 y1, Value.int IntKind.i64 y2] 22)) := ((Below.refl _ _).alloc (Nat.le_refl _) _).alloc (by simp) _
  have hB := Blk.new (w.alloc (Obj.cells #[Value.int IntKind.i64 x0, Value.int IntKind.i64 x1, Value.int IntKind.i64 x2] 22)) 22 (three y0 y1 y2)
  have hsz : (w.alloc (Obj.cells #[Value.int IntKind.i64 x0, Value.int IntKind.i64 x1, Value.int IntKind.i64 x2] 22)).heap.size = w.heap.size + 1 := by simp
  rw [hsz] at hB
  unfold three at *
  have hF : ¬ (decide (Fits x0 x1 x2) = true ∧ decide (Fits y0 y1 y2) = true) := fun hh => h ⟨of_decide_eq_true hh.1, of_decide_eq_true hh.2⟩
  generalize plV x0 x1 x2 = V1 at *
  generalize plV y0 y1 y2 = V2 at *
  generalize decide (Fits x0 x1 x2) = F1 at *
  generalize decide (Fits y0 y1 y2) = F2 at *
  clear h hT
  cases F1
  all_goals cases F2
  all_goals first
    | exact absurd ⟨rfl, rfl⟩ hF
    | (clear hF
       go_enter Tryd.func5, Tryd.ntmps5
       go_wp2_with (first
         | (go_at_call 6
            refine (H2.out _ c1).mono ?_
            rintro e w2 ⟨rfl, hb2⟩
            have c2 : Below w.heap.size w w2 := c1.trans (hb2.mono c1.size))
         | (go_at_call 6
            refine (H1.out _ hb0).mono ?_
            rintro e w1 ⟨rfl, hb1⟩
            have c1 : Below w.heap.size w w1 := hb0.trans (hb1.mono hb0.size)
            have hB1 := hB.below hb1 (by simp)
            have d0 := hB1.cell 0
            have d1 := hB1.cell 1
            have d2 := hB1.cell 2)
         | (go_at_call 14
            refine (HA.out _ c2).mono ?_
            rintro e w9 ⟨rfl, hb9⟩))
       go_ret
       exact ⟨rfl, c2.trans (hb9.mono c2.size)⟩)
/-- Whether the first so many parts are alike. -/
def Sb (x0 x1 x2 y0 y1 y2 : Int) : Nat → Bool
  | 0 => true
  | 1 => y0 == x0
  | 2 => y0 == x0 && y1 == x1
  | _ => y0 == x0 && y1 == x1 && y2 == x2
theorem after_alike {x0 x1 x2 y0 y1 y2 : Int} {a b K : Nat} (hx : Fits x0 x1 x2) (hy : Fits y0 y1 y2) (ha : a = placeN x0 x1 x2) (hb : b = placeN y0 y1 y2) (hK : K < 3) :
    (Sb x0 x1 x2 y0 y1 y2 (K + 1) = true → b < afterN a K) ∧ (Sb x0 x1 x2 y0 y1 y2 (K + 1) = false → b < a ∨ afterN a K ≤ b) ∧ a < afterN a K ∧ afterN a K ≤ 1000000000 := by
  unfold Fits at hx hy
  unfold placeN at ha hb
  have hc : K = 0 ∨ K = 1 ∨ K = 2 := by omega
  rcases hc with rfl | rfl | rfl
  · simp only [Sb, afterN, unitN, if_true, beq_iff_eq, beq_eq_false_iff_ne]
    refine ⟨fun h => by omega, fun h => by omega, by omega, by omega⟩
  · simp only [Sb, afterN, unitN, Bool.and_eq_true, Bool.and_eq_false_iff, beq_iff_eq, beq_eq_false_iff_ne]
    refine ⟨fun h => by simp; omega, fun h => by simp; omega, by simp; omega, by simp; omega⟩
  · simp only [Sb, afterN, unitN, Bool.and_eq_true, Bool.and_eq_false_iff, beq_iff_eq, beq_eq_false_iff_ne]
    refine ⟨fun h => by simp; omega, fun h => by simp; omega, by simp, by simp; omega⟩
theorem less_of {x0 x1 x2 y0 y1 y2 : Int} {a b : Nat} (hx : Fits x0 x1 x2) (hy : Fits y0 y1 y2) (ha : a = placeN x0 x1 x2) (hb : b = placeN y0 y1 y2) :
    ((decide (x0 < y0) || (x0 == y0 && (decide (x1 < y1) || (x1 == y1 && decide (x2 < y2))))) = decide ((a : Int) < b)) ∧ same3 x0 x1 x2 y0 y1 y2 = ((a : Int) == b) := by
  unfold Fits at hx hy
  unfold placeN at ha hb
  constructor
  · rw [Bool.eq_iff_iff]
    simp only [Bool.or_eq_true, Bool.and_eq_true, decide_eq_true_eq, beq_iff_eq]
    omega
  · rw [Bool.eq_iff_iff]
    simp only [same3, Bool.and_eq_true, beq_iff_eq]
    omega
set_option maxHeartbeats 6400000 in
set_option maxRecDepth 100000 in
theorem stands_yes (x0 x1 x2 y0 y1 y2 t : Int) (K : Nat) (w : World) (hx : Fits x0 x1 x2) (hy : Fits y0 y1 y2) (ht0 : 0 ≤ t) (ht1 : t ≤ 255) (hK : t % 3 = (K : Int)) (hT : Tabs w) :
    Calls Tryd.prog 5 #[.agg (three x0 x1 x2), .agg (three y0 y1 y2), .int .u8 t] w fun e w' => e = .returned (.bool true) ∧ Below w.heap.size w w' := by
  have hK3 : K < 3 := by omega
  obtain ⟨a, ha⟩ : ∃ a, a = placeN x0 x1 x2 := ⟨_, rfl⟩
  obtain ⟨b, hb⟩ : ∃ b, b = placeN y0 y1 y2 := ⟨_, rfl⟩
  have hal : a < 1000000000 := by rw [ha]; exact place_lt hx
  have hbl : b < 1000000000 := by rw [hb]; exact place_lt hy
  obtain ⟨m1, m2, m3, m4⟩ := after_alike hx hy ha hb hK3
  obtain ⟨hless, hsame⟩ := less_of hx hy ha hb
  have H1 := hide (fun wx (hb : Below w.heap.size w wx) => place_yes x0 x1 x2 wx hx (hT.below hb))
  have H2 := hide (fun wx (hb : Below w.heap.size w wx) => place_yes y0 y1 y2 wx hy (hT.below hb))
  have H3 := hide (fun wx (hb : Below w.heap.size w wx) => text_yes a wx hal (hT.below hb))
  have H4 := hide (fun wx (hb : Below w.heap.size w wx) => read_any (str (txt a)) wx (by rw [str_size]; have := txt_len a; omega) (hT.below hb))
  rw [read_txt hal] at H4
  unfold optV at H4
  simp only [Option.isSome_some] at H4
  have H5 := hide (fun wx (hb : Below w.heap.size w wx) => parts_yes a wx hal (hT.below hb))
  unfold partsOf at H5
  have hpp := place_parts hx
  rw [← ha] at hpp
  rw [hpp.1, hpp.2.1, hpp.2.2] at H5
  have H6 := hide (fun wx (hb : Below w.heap.size w wx) => after_yes a K wx hal hK3 (hT.below hb))
  have HA := hide (fun wx (hb : Below w.heap.size w wx) => awake_any wx (hT.below hb))
  have heq1 := eq_three x0 x1 x2 y0 y1 y2
  rw [hsame] at heq1
  have heq2 := eq_three x0 x1 x2 x0 x1 x2
  rw [same_self] at heq2
  rw [← ha] at H1
  rw [← hb] at H2
  generalize afterN a K = n at *
  generalize str (txt a) = S at *
  have hb0 : Below w.heap.size w ((w.alloc (Obj.cells #[Value.int IntKind.i64 x0, Value.int IntKind.i64 x1, Value.int IntKind.i64 x2] 22)).alloc (Obj.cells #[Value.int IntKind.i64 y0, Value.int IntKind.i64 y1, Value.int IntKind.i64 y2] 22)) := ((Below.refl _ _).alloc (Nat.le_refl _) _).alloc (by simp) _
  have hX := (Blk.new w 22 (three x0 x1 x2)).alloc (Obj.cells #[Value.int IntKind.i64 y0, Value.int IntKind.i64 y1, Value.int IntKind.i64 y2] 22)
  have hY := Blk.new (w.alloc (Obj.cells #[Value.int IntKind.i64 x0, Value.int IntKind.i64 x1, Value.int IntKind.i64 x2] 22)) 22 (three y0 y1 y2)
  have hsz : (w.alloc (Obj.cells #[Value.int IntKind.i64 x0, Value.int IntKind.i64 x1, Value.int IntKind.i64 x2] 22)).heap.size = w.heap.size + 1 := by simp
  rw [hsz] at hY
  unfold three at *
  have Hm := hide (And.intro m1 m2)
  have Hab := hide (And.intro (show (a : Int) = x0 * 1000000 + x1 * 1000 + x2 by unfold Fits at hx; unfold placeN at ha; omega) (And.intro (show (b : Int) = y0 * 1000000 + y1 * 1000 + y2 by unfold Fits at hy; unfold placeN at hb; omega) (And.intro hx hy)))
  clear hpp ha hb hx hy hT m1 m2 hsame hsz hless
  go_enter Tryd.func5, Tryd.ntmps5
  go_upto_region 5 with (first
    | (go_at_call 6
       refine (H2.out _ c1).mono ?_
       rintro e w2 ⟨rfl, hb2⟩
       have c2 : Below w.heap.size w w2 := c1.trans (hb2.mono c1.size)
       have hX2 := hX1.below hb2 hX1.lt
       have hY2 := hY1.below hb2 hY1.lt
       have p0 := hX2.cell 0
       have p1 := hX2.cell 1
       have p2 := hX2.cell 2
       have q0 := hY2.cell 0
       have q1 := hY2.cell 1
       have q2 := hY2.cell 2)
    | (go_at_call 6
       refine (H1.out _ hb0).mono ?_
       rintro e w1 ⟨rfl, hb1⟩
       have c1 : Below w.heap.size w w1 := hb0.trans (hb1.mono hb0.size)
       have hX1 := hX.below hb1 hX.lt
       have hY1 := hY.below hb1 hY.lt
       have d0 := hY1.cell 0
       have d1 := hY1.cell 1
       have d2 := hY1.cell 2))
  clear d0 d1 d2
  go_cut [11] (fun s wx => s = .bool (decide ((a : Int) < b)) ∧ w2 = wx)
  case first =>
    clear heq1 heq2 hK
    obtain ⟨ea, eb, fx, fy⟩ := Hab.out
    unfold Fits at fx fy
    have hcs : x0 < y0 ∨ y0 < x0 ∨ (x0 = y0 ∧ (x1 < y1 ∨ y1 < x1 ∨ (x1 = y1 ∧ (x2 < y2 ∨ ¬ x2 < y2)))) := by omega
    have hya : decide ((a : Int) < b) = true ↔ (x0 < y0 ∨ (x0 = y0 ∧ (x1 < y1 ∨ (x1 = y1 ∧ x2 < y2)))) := by
      rw [decide_eq_true_eq]; omega
    have Hy := hide hya
    clear hya fx fy ea eb Hab H1 H2 H3 H4 H5 H6 HA Hm
    rcases hcs with h | h | ⟨rfl, h | h | ⟨rfl, h | h⟩⟩
    · have e : decide ((a : Int) < b) = true := Hy.out.2 (.inl h)
      have E := hide e
      clear Hy e
      go_wp2_with fail
      go_meet
      exact ⟨congrArg Value.bool E.out.symm, rfl⟩
    · have e : decide ((a : Int) < b) = false := by rw [← Bool.not_eq_true, Hy.out]; omega
      have E := hide e
      have h' : (x0 == y0) = false := by rw [beq_eq_false_iff_ne]; omega
      clear Hy e
      go_wp2_with fail
      go_meet
      exact ⟨congrArg Value.bool ((decide_eq_false (by omega)).trans E.out.symm), rfl⟩
    · have e : decide ((a : Int) < b) = true := Hy.out.2 (.inr ⟨rfl, .inl h⟩)
      have E := hide e
      clear Hy e
      go_wp2_with fail
      go_meet
      exact ⟨congrArg Value.bool E.out.symm, rfl⟩
    · have e : decide ((a : Int) < b) = false := by rw [← Bool.not_eq_true, Hy.out]; omega
      have E := hide e
      have h' : (x1 == y1) = false := by rw [beq_eq_false_iff_ne]; omega
      clear Hy e
      go_wp2_with fail
      go_meet
      exact ⟨congrArg Value.bool ((decide_eq_false (by omega)).trans E.out.symm), rfl⟩
    · have e : decide ((a : Int) < b) = true := Hy.out.2 (.inr ⟨rfl, .inr ⟨rfl, h⟩⟩)
      have E := hide e
      clear Hy e
      go_wp2_with fail
      go_meet
      exact ⟨congrArg Value.bool E.out.symm, rfl⟩
    · have e : decide ((a : Int) < b) = false := by rw [← Bool.not_eq_true, Hy.out]; omega
      have E := hide e
      clear Hy e
      go_wp2_with fail
      go_meet
      exact ⟨congrArg Value.bool E.out.symm, rfl⟩
  case rest =>
    obtain ⟨rfl, rfl⟩ := hcut
    clear p0 p1 p2 q0 q1 q2
    go_wp2_with (first
      | (go_at_call 10
         refine (H3.out _ c2).mono ?_
         rintro e w3 ⟨rfl, hb3⟩
         have c3 : Below w.heap.size w w3 := c2.trans (hb3.mono c2.size)
         have hX3 := hX2.below hb3 hX2.lt
         have hY3 := hY2.below hb3 hY2.lt)
      | (go_at_call 15
         refine (H4.out _ c3).mono ?_
         rintro e w4 ⟨rfl, hb4⟩
         have c4 : Below w.heap.size w w4 := c3.trans (hb4.mono c3.size)
         have hX4 := hX3.below hb4 hX3.lt
         have hY4 := hY3.below hb4 hY3.lt)
      | (go_at_call 8
         refine (H5.out _ c4).mono ?_
         rintro e w5 ⟨rfl, hb5⟩
         have c5 : Below w.heap.size w w5 := c4.trans (hb5.mono c4.size)
         have c5' : Below w.heap.size w (w5.alloc (Obj.cells #[Value.int IntKind.i64 x0, Value.int IntKind.i64 x1, Value.int IntKind.i64 x2] 22)) := c5.alloc c5.size _
         have hX5 := hX4.below hb5 hX4.lt
         have hY5 := hY4.below hb5 hY4.lt
         have hlx := hX5.lt
         have hly := hY5.lt
         have p0 := hX5.cell 0
         have p1 := hX5.cell 1
         have p2 := hX5.cell 2
         have q0 := hY5.cell 0
         have q1 := hY5.cell 1
         have q2 := hY5.cell 2)
      | (go_at_call 12
         refine (H6.out _ c5').mono ?_
         rintro e w6 ⟨rfl, rfl⟩))
    have hX6 := hX5.alloc (Obj.cells #[Value.int IntKind.i64 x0, Value.int IntKind.i64 x1, Value.int IntKind.i64 x2] 22)
    have hY6 := hY5.alloc (Obj.cells #[Value.int IntKind.i64 x0, Value.int IntKind.i64 x1, Value.int IntKind.i64 x2] 22)
    have Hin := hide (And.intro hX6 (And.intro hY6 c5'))
    clear p0 p1 p2 q0 q1 q2 hX hY hX1 hY1 hX2 hY2 hX3 hY3 hX4 hY4 hX5 hY5 hX6 hY6 hb0 hb1 hb2 hb3 hb4 hb5 c1 c2 c3 c4 c5 c5' H1 H2 H3 H4 H5 H6 heq1 heq2 hlx hly hK
    go_loopw [18, 19] (fun s i wx => ∃ j : Nat, j ≤ K + 1 ∧ i = .int .i64 (j : Int) ∧ s = .bool (Sb x0 x1 x2 y0 y1 y2 j) ∧ Blk wx w.heap.size 22 #[.int .i64 x0, .int .i64 x1, .int .i64 x2] ∧ Blk wx (w.heap.size + 1) 22 #[.int .i64 y0, .int .i64 y1, .int .i64 y2] ∧ Below w.heap.size w wx) (fun _ i _ => K + 1 - (Go.RowKit.intOf i).toNat)
    case atStart => exact ⟨0, by omega, rfl, rfl, Hin.out.1, Hin.out.2.1, Hin.out.2.2⟩
    case round =>
      obtain ⟨j, hj, rfl, rfl, hXr, hYr, hbr⟩ := hrel
      by_cases hc : j ≤ K
      · have p0 := hXr.cell 0
        have p1 := hXr.cell 1
        have p2 := hXr.cell 2
        have q0 := hYr.cell 0
        have q1 := hYr.cell 1
        have q2 := hYr.cell 2
        have Hr := hide (And.intro hXr (And.intro hYr hbr))
        clear hXr hYr hbr
        have hj3 : j = 0 ∨ j = 1 ∨ j = 2 := by omega
        rcases hj3 with rfl | rfl | rfl
        · rw [show Sb x0 x1 x2 y0 y1 y2 0 = true from rfl]
          go_upto_region 18 with fail
          go_quiet (fail)
          go_wp2
          go_roundw
          case rel => exact ⟨1, by omega, by go_num, rfl, Hr.out.1.drewN _, Hr.out.2.1.drewN _, below_drewN Hr.out.2.2 _⟩
          case measure => simp [Go.RowKit.intOf]
        · rw [show Sb x0 x1 x2 y0 y1 y2 1 = (y0 == x0) from rfl]
          cases he : (y0 == x0)
          · have Hs : Hid (false = Sb x0 x1 x2 y0 y1 y2 2) := hide (by simp only [Sb, he, Bool.false_and])
            clear he
            go_upto_region 18 with fail
            go_quiet (fail)
            go_wp2
            go_roundw
            case rel => exact ⟨2, by omega, by go_num, congrArg Value.bool Hs.out, Hr.out.1.drewN _, Hr.out.2.1.drewN _, below_drewN Hr.out.2.2 _⟩
            case measure => simp [Go.RowKit.intOf]; omega
          · have Hs : Hid ((y1 == x1) = Sb x0 x1 x2 y0 y1 y2 2) := hide (by simp only [Sb, he, Bool.true_and])
            clear he
            go_upto_region 18 with fail
            go_quiet (fail)
            go_wp2
            go_roundw
            case rel => exact ⟨2, by omega, by go_num, congrArg Value.bool Hs.out, Hr.out.1.drewN _, Hr.out.2.1.drewN _, below_drewN Hr.out.2.2 _⟩
            case measure => simp [Go.RowKit.intOf]; omega
        · rw [show Sb x0 x1 x2 y0 y1 y2 2 = (y0 == x0 && y1 == x1) from rfl]
          cases he : (y0 == x0 && y1 == x1)
          · have Hs : Hid (false = Sb x0 x1 x2 y0 y1 y2 3) := hide (by simp only [Sb, he, Bool.false_and])
            clear he
            go_upto_region 18 with fail
            go_quiet (fail)
            go_wp2
            go_roundw
            case rel => exact ⟨3, by omega, by go_num, congrArg Value.bool Hs.out, Hr.out.1.drewN _, Hr.out.2.1.drewN _, below_drewN Hr.out.2.2 _⟩
            case measure => simp [Go.RowKit.intOf]; omega
          · have Hs : Hid ((y2 == x2) = Sb x0 x1 x2 y0 y1 y2 3) := hide (by simp only [Sb, he, Bool.true_and])
            clear he
            go_upto_region 18 with fail
            go_quiet (fail)
            go_wp2
            go_roundw
            case rel => exact ⟨3, by omega, by go_num, congrArg Value.bool Hs.out, Hr.out.1.drewN _, Hr.out.2.1.drewN _, below_drewN Hr.out.2.2 _⟩
            case measure => simp [Go.RowKit.intOf]; omega
      · have hj2 : j = K + 1 := by omega
        subst hj2
        obtain ⟨n1, n2⟩ := Hm.out
        clear Hm
        generalize Sb x0 x1 x2 y0 y1 y2 (K + 1) = Z at *
        have HA2 := HA.out wr hbr
        have HA3 := hide HA2
        cases Z
        · have n3 := n2 rfl
          clear n1 n2 HA HA2
          go_wp2_with (first
            | (go_at_call 14
               refine HA3.out.mono ?_
               rintro e w9 ⟨rfl, hb9⟩))
          all_goals (go_ret; exact ⟨rfl, hbr.trans (hb9.mono hbr.size)⟩)
        · have n3 := n1 rfl
          clear n1 n2 HA HA2
          go_wp2_with (first
            | (go_at_call 14
               refine HA3.out.mono ?_
               rintro e w9 ⟨rfl, hb9⟩))
          all_goals (go_ret; exact ⟨rfl, hbr.trans (hb9.mono hbr.size)⟩)
end Go.Proofs.YtmaeeibgdjkonaaDoor.Ver
