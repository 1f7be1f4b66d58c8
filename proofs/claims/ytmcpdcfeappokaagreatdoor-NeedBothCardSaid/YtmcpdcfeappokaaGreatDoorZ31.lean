/-
  Some texts of this claim, one behind the other: RuleRead. What each proves, and its condition, stands at its head.
-/
import Derived.Test.YtmcpdcfeappokaaGreatDoorZ29
import Derived.Test.YtmcpdcfeappokaaGreatDoorZ30
import Derived.Test.YtmcpdcfeappokaaGreatDoorZ19
/-
  The contracts of the program's meaning, read and Read: what a text is read as. Condition: the tables hold what the texts lay in them.
-/
namespace Go.Proofs.YtmcpdcfeappokaaGreatDoor.Rule
open Go.RowKit Go.Lib Go.Proofs.YtmcpdcfeappokaaGreatDoor.Span
open Go.Proofs.YtmcpdcfeappokaaGreatDoor.Ver (Tabs)
set_option linter.unusedVariables false
theorem mean_of (f : Bool) {w : List UInt8} (h1 : w ≠ anyL) (h2 : w ≠ noneL) : mean f w = cmpI w := by
  unfold mean; simp [h1, h2]
/-- A set and a Boolean, made anew. -/
def MakesB (w : World) (L : List S) (b : Bool) (e : Ending) (w' : World) : Prop := ∃ A n c, e = .returned (.tuple #[.slice A n c, .bool b]) ∧ SpOn w' A n L ∧ Below w.heap.size w w'
theorem cmp_on (l : List UInt8) (w : World) (hl : l.length ≤ 1000000) (hT : Tabs w) : Calls Tryz.prog 108 #[.string (str l)] w (MakesB w (setO (cmpI l)) (cmpI l).isSome) := cmp_any l w hl hT
theorem all_on (w : World) : Calls Tryz.prog 53 #[] w (Makes w (setOf [(0, 1000000000)])) := by rw [setOf_all]; exact makes_of' (all_any w)
set_option maxHeartbeats 1000000 in
set_option maxRecDepth 100000 in
theorem meaning_on (l : List UInt8) (f : Bool) (w : World) (hl : l.length ≤ 1000000) (hT : Tabs w) :
    Calls Tryz.prog 100 #[.string (str l), .bool f] w (MakesB w (setO (mean f l)) (mean f l).isSome) := by
  have HC := hide (cmp_on l w hl hT)
  have HA := hide (all_on w)
  have h1 := eqb l [97, 110, 121]
  have h2 := eqb l [110, 111, 110, 101]
  unfold MakesB Makes at *
  by_cases hf : f = true
  · subst hf
    by_cases ha : l = anyL
    · have hm : mean true l = some (0, 1000000000) := by rw [ha]; simp [mean]
      rw [decide_eq_true (show l = [97, 110, 121] from ha)] at h1
      rw [hm]
      clear hm ha HC h2
      go_enter Tryz.func100, Tryz.ntmps100
      go_wp2_with (go_at_call 53
                   refine HA.out.mono ?_
                   rintro e w1 ⟨A, n, c, rfl, h, hb⟩)
      go_ret2
      exact ⟨_, _, _, rfl, h, hb⟩
    · rw [decide_eq_false (show ¬ l = [97, 110, 121] from ha)] at h1
      by_cases hb : l = noneL
      · have hm : mean true l = some (0, 0) := by rw [hb]; simp [mean, anyL, noneL]
        rw [decide_eq_true (show l = [110, 111, 110, 101] from hb)] at h2
        have he : setO (some ((0 : Int), (0 : Int))) = [] := setOf_none
        rw [hm, he]
        clear hm ha hb HC HA he
        go_enter Tryz.func100, Tryz.ntmps100
        go_wp2
        go_ret2
        exact ⟨none, 0, 0, rfl, SpIn.nil _ _ _, Below.refl _ _⟩
      · have hm : mean true l = cmpI l := mean_of true ha hb
        rw [decide_eq_false (show ¬ l = [110, 111, 110, 101] from hb)] at h2
        rw [hm]
        clear hm ha hb HA
        generalize cmpI l = C at *
        go_enter Tryz.func100, Tryz.ntmps100
        go_wp2_with (go_at_call 108
                     refine HC.out.mono ?_
                     rintro e w1 ⟨A, n, c, rfl, h, hb⟩)
        go_ret2
        exact ⟨_, _, _, rfl, h, hb⟩
  · have hf : f = false := by simpa using hf
    subst hf
    have hm : mean false l = cmpI l := by simp [mean]
    rw [hm]
    clear hm HA h1 h2
    generalize cmpI l = C at *
    go_enter Tryz.func100, Tryz.ntmps100
    go_wp2_with (go_at_call 108
                 refine HC.out.mono ?_
                 rintro e w1 ⟨A, n, c, rfl, h, hb⟩)
    go_ret2
    exact ⟨_, _, _, rfl, h, hb⟩
/-- What is told behind all pieces. -/
noncomputable def wrongOf : Except Nat (List S) → Int
  | .error p => (p : Int)
  | .ok _ => -1
theorem readI_step {acc : List S} {q : Pc} {r : List Pc} : readI acc (q :: r) = match pieceI q with | .error e => .error e | .ok i => readI (acc ++ [i]) r := rfl
theorem drop_at {α : Type} {l : List α} {i : Nat} {x : α} (h : l[i]? = some x) : l.drop i = x :: l.drop (i + 1) := by
  obtain ⟨hi, rfl⟩ := List.getElem?_eq_some_iff.1 h
  exact List.drop_eq_getElem_cons hi
/-- How long words are. -/
def Short (qs : List Pc) : Prop := ∀ q ∈ qs, q.1.length ≤ 1000000 ∧ ∀ x ∈ q.1, x.1.length ≤ 1000000
theorem union_of (a b : List S) : unionS (setOf a) (setOf b) = setOf (a ++ b) := (setOf_append a b).symm
theorem meet_of (a b : S) : meetS (setOf [a]) (setOf [b]) = setOf [inter a b] := (setOf_inter a b).symm
theorem meetI_step {f : Bool} {a : S} {x : W} {r : List W} : meetI f a (x :: r) = match mean f x.1 with | none => .error x.2 | some i => meetI f (inter a i) r := rfl
set_option maxHeartbeats 2000000 in
set_option maxRecDepth 100000 in
theorem read_any (qs : List Pc) (A : Option Addr) (n c : Nat) (w : World) (h : PcIn w w.heap.size A n qs) (hs : Short qs) (hn : n ≤ 1000000) (hT : Tabs w) :
    Calls Tryz.prog 86 #[.slice A n c] w fun e w' => ∃ A' n' c', e = .returned (.tuple #[.slice A' n' c', .int .i64 (wrongOf (readI [] qs))]) ∧ (∀ l, readI [] qs = .ok l → SpOn w' A' n' (setOf l)) ∧ Below w.heap.size w w' := by
  obtain ⟨R, hR⟩ : ∃ R, R = readI [] qs := ⟨_, rfl⟩
  rw [← hR]
  have HT := hide hT
  have HS := hide hs
  clear hT hs
  have hql := h.1
  have H := hide h
  clear h
  go_enter Tryz.func86, Tryz.ntmps86
  go_wp2
  go_step3
  go_wp2
  go_step3
  go_wp2
  go_loopw [4, 5, 15] (fun u v x wr => ∃ (i m k : Nat) (B : Option Addr) (acc : List S), i ≤ n ∧ u = .slice B m k ∧ v = .int .i64 (-1) ∧ x = .int .i64 (i : Int) ∧ SpOn wr B m (setOf acc) ∧ Hid (R = readI acc (qs.drop i)) ∧ Below w.heap.size w wr) (fun _ _ x _ => n - (intOf x).toNat)
  case atStart => exact ⟨0, 0, 0, none, [], by omega, rfl, rfl, rfl, by rw [setOf_nil]; exact SpIn.nil _ _ _, hide hR, Below.refl _ _⟩
  case round =>
    obtain ⟨i, m, k, B, acc, hi, rfl, rfl, rfl, hU, hG, hb⟩ := hrel
    clear hR
    by_cases hlt : i < n
    · obtain ⟨ad, q, A1, n1, c1, rfl, hbl, hq, hW, p1, p2⟩ := (H.out.below hb).at_ hlt
      have hdr := drop_at hq
      have HG := hide (hG.out.trans (by rw [hdr, readI_step]))
      obtain ⟨hqn, hqs⟩ := HS.out q (List.mem_of_getElem? hq)
      have hbs := hb.size
      clear hdr hG HS
      by_cases hne : q.1 = []
      · have hn1 : n1 = 0 := by rw [hW.head, hne]; rfl
        subst hn1
        have HR : Hid (R = .error q.2) := hide (by rw [HG.out]; simp [pieceI, hne])
        clear hne HG
        go_wp2
        try rw [Exit.noGoto_ret]
        go_ret2
        rw [HR.out]
        exact ⟨_, _, _, rfl, (fun l hl => by cases hl), hb.alloc hbs _⟩
      · have hn1 : ((n1 : Int) == 0) = false := beq_eq_false_iff_ne.2 fun e => hne (List.eq_nil_of_length_eq_zero (by rw [hW.1]; omega))
        have hF : ((n1 : Int) == 1) = decide (q.1.length = 1) := by
          rw [hW.1, Bool.eq_iff_iff, beq_iff_eq, decide_eq_true_eq]; omega
        have HP : Hid (pieceI q = meetI (decide (q.1.length = 1)) (0, 1000000000) q.1) := hide (by unfold pieceI; rw [if_neg hne])
        generalize decide (q.1.length = 1) = F at *
        have hBk := Blk.new wr 127 #[.slice A1 n1 c1, .int .i64 (q.2 : Int)]
        have hba : Below wr.heap.size wr (wr.alloc (.cells #[.slice A1 n1 c1, .int .i64 (q.2 : Int)] 127)) := alloc_b _
        have hql2 := hW.1
        have hqn1 : n1 ≤ 1000000 := by rw [← hql2]; exact hqn
        have HW := hide hW
        clear hne hW hq
        obtain ⟨qw, qe⟩ := q
        simp only [] at *
        go_wp2_with (go_at_call 53
                     refine (all_on _).mono ?_
                     rintro e w2 ⟨A2, n2, c2, rfl, h2, hb2⟩
                     have hB2 := hBk.below hb2 (by simp)
                     have k0 := hB2.cell 0
                     have k1 := hB2.cell 1
                     have hbx := hba.trans (hb2.mono hba.size))
        clear k0 k1 p1 p2 hb2 hba hBk
        go_loopw [5, 8, 29] (fun v y z wr2 => ∃ (j m2 k2 : Nat) (B2 : Option Addr) (b : S), j ≤ n1 ∧ v = .int .i64 (-1) ∧ y = .slice B2 m2 k2 ∧ z = .int .i64 (j : Int) ∧ SpOn wr2 B2 m2 (setOf [b]) ∧ Hid (pieceI (qw, qe) = meetI F b (qw.drop j)) ∧ Blk wr2 wr.heap.size 127 #[.slice A1 n1 c1, .int .i64 (qe : Int)] ∧ Below wr.heap.size wr wr2) (fun _ _ z _ => n1 - (intOf z).toNat)
        case atStart => exact ⟨0, n2, c2, A2, (0, 1000000000), by omega, rfl, rfl, rfl, h2, HP, hB2, hbx⟩
        case round =>
          clear hB2 h2 HP hbx
          obtain ⟨j, m2, k2, B2, b, hj, rfl, rfl, rfl, hb2, hG2, hBk, hbx⟩ := hrel
          have hbw := hb.trans (hbx.mono hbs)
          have hUx := hU.on hbx
          by_cases hjl : j < n1
          · obtain ⟨ax, x, rfl, hbl2, hx, q1, q2⟩ := (HW.out.below (hbx.mono hbs)).at_ hjl
            have hxs := hqs x (List.mem_of_getElem? hx)
            have hdr := drop_at hx
            have HG2 := hide (hG2.out.trans (by rw [hdr, meetI_step]))
            obtain ⟨xt, xp⟩ := x
            simp only [] at q1 q2 hxs HG2
            have k0 := hBk.cell 0
            have k1 := hBk.cell 1
            have hlt2 := hBk.lt
            have HM := hide (fun wx (hbz : Below w.heap.size w wx) => meaning_on xt F wx hxs (HT.out.below hbz))
            have hBw := Blk.new wr 129 #[.string (str xt), .int .i64 (xp : Int)]
            have hbA : Below w.heap.size w (wr.alloc (.cells #[.string (str xt), .int .i64 (xp : Int)] 129)) := hbw.alloc hbw.size _
            clear hdr hG2 hx
            cases hm : mean F xt with
            | none =>
              rw [hm] at HM HG2
              have HR : Hid (R = .error xp) := hide (by rw [HG.out, HG2.out])
              clear HG HG2 hm
              go_wp2_with (go_at_call 100
                           refine (HM.out _ hbA).mono ?_
                           rintro e w3 ⟨A3, n3, c3, rfl, h3, hb3⟩
                           have hB3 := hBw.below hb3 (by simp)
                           have x0 := hB3.cell 0
                           have x1 := hB3.cell 1)
              try rw [Exit.noGoto_ret]
              go_ret2
              rw [HR.out]
              exact ⟨_, _, _, rfl, (fun l hl => by cases hl), hbA.trans (hb3.mono hbA.size)⟩
            | some iv =>
              rw [hm] at HM HG2
              clear hm
              have HG3 : Hid (pieceI (qw, qe) = meetI F (inter b iv) (qw.drop (j + 1))) := HG2
              have hb2A := hb2.on (alloc_b (w := wr) (.cells #[.string (str xt), .int .i64 (xp : Int)] 129))
              have hbxA := hbx.alloc hbx.size (.cells #[.string (str xt), .int .i64 (xp : Int)] 129)
              have hBkA := hBk.alloc (.cells #[.string (str xt), .int .i64 (xp : Int)] 129)
              clear HG2 HG
              go_wp2_with (first
                | (go_at_call 100
                   refine (HM.out _ hbA).mono ?_
                   rintro e w3 ⟨A3, n3, c3, rfl, h3, hb3⟩
                   have hb23 := hb2A.on hb3
                   have h3' : SpOn w3 A3 n3 (setOf [iv]) := h3)
                | (go_at_call 30
                   refine (meet_on hb23 h3' (setOf_set _) (setOf_set _)).mono ?_
                   rintro e w4 ⟨A4, n4, c4, rfl, h4, hb4⟩))
              rw [meet_of] at h4
              have hbA4 := hb3.trans (hb4.mono hb3.size)
              go_roundw
              case rel => exact ⟨j + 1, n4, c4, A4, inter b iv, by omega, rfl, rfl, by go_num, h4, HG3, hBkA.below hbA4 (by simp; omega), hbxA.trans (hbA4.mono hbxA.size)⟩
              case measure => simp [intOf]; omega
          · have hje : j = n1 := by omega
            subst hje
            have HR : Hid (R = readI (acc ++ [b]) (qs.drop (i + 1))) := hide (by rw [HG.out, hG2.out, List.drop_of_length_le (by omega)]; rfl)
            clear hG2 HG
            go_wp2_with (go_at_call 101
                         refine (union_on hUx hb2 (setOf_set _) (setOf_set _)).mono ?_
                         rintro e w5 ⟨A5, n5, c5, rfl, h5, hb5⟩)
            rw [union_of] at h5
            go_roundw
            case rel => exact ⟨i + 1, n5, c5, A5, acc ++ [b], by omega, rfl, rfl, by go_num, h5, HR, hbw.trans (hb5.mono hbw.size)⟩
            case measure => simp [intOf]; omega
    · have hin : i = n := by omega
      subst hin
      have HR : Hid (R = .ok acc) := hide (by rw [hG.out, List.drop_of_length_le (by omega)]; rfl)
      clear hG H HS
      go_wp2
      try rw [Exit.noGoto_ret]
      go_ret2
      rw [HR.out]
      exact ⟨_, _, _, rfl, fun l hl => by injection hl with hl; rw [← hl]; exact hU, hb⟩
/-! The words of a text are no longer than it. -/
theorem push_short {cur : List UInt8} {ws : List W} {b N : Nat} (h1 : cur.length ≤ N) (h2 : ∀ x ∈ ws, x.1.length ≤ N) : ∀ x ∈ push cur ws b, x.1.length ≤ N := by
  intro x hx
  unfold push at hx
  split at hx
  · exact h2 x hx
  · rcases List.mem_append.1 hx with hx | hx
    · exact h2 x hx
    · rw [List.mem_singleton.1 hx]; exact h1
theorem push_num (cur : List UInt8) (ws : List W) (b : Nat) : (push cur ws b).length ≤ ws.length + 1 := by
  unfold push; split <;> simp
theorem go_short (N : Nat) (x : List UInt8) : ∀ (b : Nat) (cur : List UInt8) (ws : List W), cur.length + x.length ≤ N → ws.length + x.length + 1 ≤ N + 1 → (∀ v ∈ ws, v.1.length ≤ N) → ∀ q ∈ go x b cur ws, q.1.length ≤ N + 1 ∧ ∀ v ∈ q.1, v.1.length ≤ N := by
  induction x with
  | nil =>
    intro b cur ws h1 h2 h3 q hq
    simp only [go, List.mem_singleton] at hq
    subst hq
    have := push_num cur ws b
    simp only [List.length_nil] at h1 h2
    exact ⟨by simp only []; omega, push_short (by omega) h3⟩
  | cons c x ih =>
    intro b cur ws h1 h2 h3 q hq
    simp only [List.length_cons] at h1 h2
    rw [go] at hq
    have hn := push_num cur ws b
    split at hq
    · rcases List.mem_cons.1 hq with rfl | hq
      · exact ⟨by simp only []; omega, push_short (by omega) h3⟩
      · exact ih _ _ _ (by simp only [List.length_nil]; omega) (by simp only [List.length_nil]; omega) (fun v hv => by cases hv) q hq
    · split at hq
      · exact ih _ _ _ (by simp only [List.length_nil]; omega) (by omega) (push_short (by omega) h3) q hq
      · exact ih _ _ _ (by simp only [List.length_append, List.length_singleton]; omega) (by omega) h3 q hq
theorem cut_short (l : List UInt8) (h : l.length ≤ 1000) : Short (cutL l) := fun q hq => by
  obtain ⟨h1, h2⟩ := go_short 1000 l 0 [] [] (by simpa using h) (by simpa using h) (fun v hv => by cases hv) q hq
  exact ⟨by omega, fun x hx => Nat.le_trans (h2 x hx) (by omega)⟩
/-- What is told of a text: its set, a place, an error. -/
noncomputable def toldSet : Told → List S
  | .ok l => l
  | _ => []
noncomputable def toldAt : Told → Int
  | .form p => (p : Int)
  | _ => 0
noncomputable def toldErr : Told → Int
  | .ok _ => 0
  | .form _ => 3
  | .long => 4
noncomputable def toldOf : Except Nat (List S) → Told
  | .error e => .form e
  | .ok l => if 6 < (setOf l).length then .long else .ok (setOf l)
theorem told_eq {l : List UInt8} (h : ¬ 400 < l.length) : told l = toldOf (readI [] (cutL l)) := by
  unfold told toldOf
  rw [if_neg h]
  cases readI [] (cutL l) <;> rfl
def MakesR (w : World) (t : Told) (e : Ending) (w' : World) : Prop :=
  ∃ A n c, e = .returned (.tuple #[.slice A n c, .int .i64 (toldAt t), .int .i64 (toldErr t)]) ∧ SpOn w' A n (toldSet t) ∧ Below w.heap.size w w'
set_option maxHeartbeats 1000000 in
set_option maxRecDepth 100000 in
theorem Read_any (l : List UInt8) (w : World) (hl : l.length ≤ 9223372036854775807) (hT : Tabs w) :
    Calls Tryz.prog 74 #[.string (str l)] w (MakesR w (told l)) := by
  unfold MakesR
  have hsz := str_size l
  by_cases h4 : 400 < l.length
  · have ht : told l = .long := by unfold told; rw [if_pos h4]
    have hs : 400 < (str l).size := by rw [hsz]; exact h4
    have hs2 : (str l).size ≤ 9223372036854775807 := by rw [hsz]; exact hl
    rw [ht]
    clear ht h4 hsz
    go_enter Tryz.func74, Tryz.ntmps74
    go_wp2
    go_ret3
    exact ⟨none, 0, 0, rfl, SpIn.nil _ _ _, Below.refl _ _⟩
  · have hs : (str l).size ≤ 400 := by rw [hsz]; omega
    have Hc := hide (cut_any l w (by omega))
    have Hs := hide (cut_short l (by omega))
    have ht : Hid (told l = toldOf (readI [] (cutL l))) := hide (told_eq h4)
    generalize told l = T at *
    have HR := hide (fun A n c wx (h : PcIn wx wx.heap.size A n (cutL l)) (hn : n ≤ 1001) (hb : Below w.heap.size w wx) => read_any (cutL l) A n c wx h Hs.out (by omega) (hT.below hb))
    clear hsz h4 Hs
    generalize readI [] (cutL l) = R at *
    cases R with
    | error p =>
      obtain rfl := ht.out
      have hw : wrongOf (.error p) = (p : Int) := rfl
      rw [hw] at HR
      have e0 : toldOf (.error p) = .form p := rfl
      rw [e0]
      go_enter Tryz.func74, Tryz.ntmps74
      go_wp2_with (first
        | (go_at_call 87
           refine Hc.out.mono ?_
           rintro e w1 ⟨A1, n1, c1, rfl, h1, hn1, hb1⟩)
        | (go_at_call 86
           refine (HR.out _ _ _ _ h1 hn1 hb1).mono ?_
           rintro e w2 ⟨A2, n2, c2, rfl, h2, hb2⟩))
      go_ret3
      exact ⟨none, 0, 0, rfl, SpIn.nil _ _ _, hb1.trans (hb2.mono hb1.size)⟩
    | ok acc =>
      obtain rfl := ht.out
      have hw : wrongOf (.ok acc) = -1 := rfl
      rw [hw] at HR
      have e0 : toldOf (.ok acc) = if 6 < (setOf acc).length then .long else .ok (setOf acc) := rfl
      rw [e0]
      have hlen := setOf_len acc
      by_cases h6 : 6 < (setOf acc).length
      · rw [if_pos h6]
        go_enter Tryz.func74, Tryz.ntmps74
        go_wp2_with (first
          | (go_at_call 87
             refine Hc.out.mono ?_
             rintro e w1 ⟨A1, n1, c1, rfl, h1, hn1, hb1⟩)
          | (go_at_call 86
             refine (HR.out _ _ _ _ h1 hn1 hb1).mono ?_
             rintro e w2 ⟨A2, n2, c2, rfl, h2, hb2⟩
             have h2' := h2 acc rfl
             have hl2 : 6 < n2 := by rw [h2'.len]; exact h6))
        go_ret3
        exact ⟨none, 0, 0, rfl, SpIn.nil _ _ _, hb1.trans (hb2.mono hb1.size)⟩
      · rw [if_neg h6]
        go_enter Tryz.func74, Tryz.ntmps74
        go_wp2_with (first
          | (go_at_call 87
             refine Hc.out.mono ?_
             rintro e w1 ⟨A1, n1, c1, rfl, h1, hn1, hb1⟩)
          | (go_at_call 86
             refine (HR.out _ _ _ _ h1 hn1 hb1).mono ?_
             rintro e w2 ⟨A2, n2, c2, rfl, h2, hb2⟩
             have h2' := h2 acc rfl
             have hl2 : ¬ 6 < n2 := by rw [h2'.len]; exact h6))
        go_ret3
        exact ⟨_, _, _, rfl, h2', hb1.trans (hb2.mono hb1.size)⟩
end Go.Proofs.YtmcpdcfeappokaaGreatDoor.Rule
