/-
  The walk of the law VlqReads: it returns true, and leaves all memory that was there as it was. No condition.
-/
import Derived.Test.YtgioaghhfcafpaaVlqReadsM
namespace Go.Proofs.Ytgioaghhfcafpaa.Vlq
open Go.RowKit
set_option linter.unusedVariables false
set_option maxHeartbeats 800000 in
set_option maxRecDepth 100000 in
theorem reads_skip (A0 : Option Addr) (n0 c0 : Nat) (v : Value) (w : World) (h : 2000 < n0) :
    Calls Try.prog 4 #[.slice A0 n0 c0, v] w fun e w' => e = .returned (.bool true) ∧ Below w.heap.size w w' := by
  go_enter Try.func4, Try.ntmps4
  go_wp2_with (first
    | (go_at_call 7
       refine (awake_any _).mono ?_
       rintro e w3 ⟨rfl, hb3⟩))
  go_ret
  exact ⟨rfl, hb3⟩
set_option maxHeartbeats 3200000 in
set_option maxRecDepth 100000 in
theorem reads_walk (A0 : Option Addr) (n0 c0 : Nat) (L : List UInt8) (A1 : Option Addr) (n1 c1 : Nat) (ps : List (Int × Int)) (w : World) (h0 : n0 ≤ 2000)
    (hr0 : Reads w w.heap.size 1 A0 n0 (bcs L)) (hr1 : RdsIn w w.heap.size A1 n1 ps) :
    Calls Try.prog 4 #[.slice A0 n0 c0, .slice A1 n1 c1] w fun e w' => e = .returned (.bool true) ∧ Below w.heap.size w w' := by
  have hl0 : L.length = n0 := by have := hr0.1; rw [bcs_length] at this; omega
  have Hl0 := hide hl0
  clear hl0
  go_enter Try.func4, Try.ntmps4
  go_wp2_with (first
    | (go_at_call 12
       refine (open_any A0 n0 c0 L w (by omega) hr0).mono ?_
       rintro e w1 ⟨g, rfl, hgl, hrv, hb1⟩
       have hglt := hrv.lt
       have hcv : (convert 22 9 (.slice A0 n0 c0)).run Try.prog w1 = .ok (.string (str L)) w1 := run_str (P := Try.prog) w1 22 9 5 c0 Try.underlying22 Try.underlying5 Try.underlying9 ((hr0.below hb1).more hb1.size)))
  go_loopw [7] (fun s wx => ∃ (i j : Nat) (e : Int), i ≤ n1 ∧ i ≤ 100 ∧ s = .int .i64 (i : Int) ∧ Both wx g w1.heap.size L j e ∧ Below w.heap.size w wx) (fun s _ => 100 - (intOf s).toNat)
  case atStart =>
    refine ⟨0, 0, 0, by omega, by omega, rfl, ⟨(hrv.below ((Below.refl _ _).alloc (Nat.le_refl _) _) hglt), ⟨Blk.new _ _ _, ?_⟩, by omega, hglt⟩, hb1.alloc hb1.size _⟩
    have := Hl0.out
    simp; omega
  case round =>
    obtain ⟨i, j, e, hi, hi100, rfl, hbo, hb⟩ := hrel
    clear hcv
    by_cases hc : i < n1
    · by_cases hc2 : i < 100
      · obtain ⟨ad, k, most, rfl, hbl, hk, hm⟩ := (hr1.below hb).at_ hc
        go_upto_region 8 with fail
        go_cut [51] (fun s wx => s = .bool false ∧ ∃ (j : Nat) (e : Int), Both wx g w1.heap.size L j e ∧ Below w.heap.size w wx)
        case first =>
          by_cases hk0 : k = 0
          · subst hk0
            go_region_held3 (fun w' => w'.cell? (ad.add (i * 2)) = some (.int .i64 0) ∧ w'.cell? ⟨(ad.add (i * 2)).block, (ad.add (i * 2)).off + 1, none⟩ = some (.int .i64 most)) (first | exact ⟨hk3, hm3⟩ | exact ⟨hk2, hm2⟩ | exact ⟨hk, hm⟩ | go_keep)
              (first
                | (go_at_call 13
                   refine (num_any g L j e most _ ?_).mono ?_
                   · exact hbo.1
                   rintro e9 w2 ⟨rfl, h2, hg2⟩
                   have hk2 := World.grownBy.cell hg2 hk (by rw [block_of_add]; intro hh; injection hh with hh; omega)
                   have hm2 := World.grownBy.cell hg2 hm (by simp only [block_of_add]; intro hh; injection hh with hh; omega)
                   have hmid : RdM w2 w1.heap.size (L.drop j) e := by first | exact hbo.mid hg2 | exact hbo.drew.mid hg2
                   have hbb : Below w.heap.size w w2 := by first | exact below_of_only hb hg2 hb.size hgl | exact below_of_only hb.drew hg2 hb.size hgl)
                | (go_at_call 14
                   refine (refRdNum_any w1.heap.size (L.drop j) e most _ ?_).mono ?_
                   · exact hmid
                   rintro e8 w3 ⟨he3, h3, hg3⟩
                   have hbo9 : Both w3 g w1.heap.size L (numR L j e most).2.1 (numR L j e most).2.2 := by first | exact hbo.num h2 hg2 h3 hg3 | exact hbo.drew.num h2 hg2 h3 hg3
                   have hbb3 := below_of_only hbb hg3 hbb.size (Nat.le_trans hgl (Nat.le_of_lt hglt))
                   have hk3 := World.grownBy.cell hg3 hk2 (by rw [block_of_add]; intro hh; injection hh with hh; omega)
                   have hm3 := World.grownBy.cell hg3 hm2 (by simp only [block_of_add]; intro hh; injection hh with hh; omega)
                   rw [numM_of] at he3
                   subst he3))
            go_wp2_with fail
            go_meet
            exact ⟨rfl, _, _, hbo9, hbb3⟩
          · have hkb : (k == 0) = false := by simpa using hk0
            clear hk0
            go_quiet (fail)
            go_wp2_with fail
            go_meet
            exact ⟨rfl, j, e, hbo.drewN _, below_drewN hb _⟩
        case rest =>
          obtain ⟨rfl, j2, e2, hbo2, hb2⟩ := hcut
          clear hbo hb
          clear hk hm hbl
          obtain ⟨ad9, k, most, hA, hbl, hk, hm⟩ := (hr1.below hb2).at_ hc
          injection hA with hA
          subst hA
          go_upto_region 10 with fail
          go_cut [74] (fun s wx => s = .bool false ∧ ∃ (j : Nat) (e : Int), Both wx g w1.heap.size L j e ∧ Below w.heap.size w wx)
          case first =>
            have hj2 := hbo2.2.2.1
            by_cases hk0 : k = 1
            · subst hk0
              go_region_held3 (fun w' => w'.cell? (ad.add (i * 2)) = some (.int .i64 1) ∧ w'.cell? ⟨(ad.add (i * 2)).block, (ad.add (i * 2)).off + 1, none⟩ = some (.int .i64 most)) (first | exact ⟨hk3, hm3⟩ | exact ⟨hk2, hm2⟩ | exact ⟨hk, hm⟩ | go_keep)
                (first
                  | (go_at_call 15
                     refine (str_any g L j2 e2 most _ ?_).mono ?_
                     · exact hbo2.1
                     rintro e9 w2 ⟨rfl, h2, hg2⟩
                     have hk2 := World.grownBy.cell hg2 hk (by rw [block_of_add]; intro hh; injection hh with hh; omega)
                     have hm2 := World.grownBy.cell hg2 hm (by simp only [block_of_add]; intro hh; injection hh with hh; omega)
                     have hmid : RdM w2 w1.heap.size (L.drop j2) e2 := by first | exact hbo2.mid hg2 | exact hbo2.drew.mid hg2
                     have hbb : Below w.heap.size w w2 := by first | exact below_of_only hb2 hg2 hb2.size hgl | exact below_of_only hb2.drew hg2 hb2.size hgl)
                  | (go_at_call 16
                     refine (refRdStr_any w1.heap.size (L.drop j2) e2 most _ ?_).mono ?_
                     · exact hmid
                     rintro e8 w3 ⟨he3, h3, hg3⟩
                     have hbo9 : Both w3 g w1.heap.size L (strR L j2 e2 most).2.1 (strR L j2 e2 most).2.2 := by first | exact hbo2.str h2 hg2 h3 hg3 | exact hbo2.drew.str h2 hg2 h3 hg3
                     have hbb3 := below_of_only hbb hg3 hbb.size (Nat.le_trans hgl (Nat.le_of_lt hglt))
                     have hk3 := World.grownBy.cell hg3 hk2 (by rw [block_of_add]; intro hh; injection hh with hh; omega)
                     have hm3 := World.grownBy.cell hg3 hm2 (by simp only [block_of_add]; intro hh; injection hh with hh; omega)
                     rw [strM_of L j2 e2 most hj2] at he3
                     subst he3))
              go_wp2_with fail
              go_meet
              exact ⟨rfl, _, _, hbo9, hbb3⟩
            · have hkb : (k == 1) = false := by simpa using hk0
              clear hk0
              go_quiet (fail)
              go_wp2_with fail
              go_meet
              exact ⟨rfl, j2, e2, hbo2.drewN _, below_drewN hb2 _⟩
          case rest =>
            obtain ⟨rfl, j3, e3, hbo3, hb3⟩ := hcut
            clear hbo2 hb2
            clear hk hm hbl
            obtain ⟨ad9, k, most, hA, hbl, hk, hm⟩ := (hr1.below hb3).at_ hc
            injection hA with hA
            subst hA
            go_upto_region 12 with fail
            go_cut [88] (fun s wx => ∃ b : Bool, s = .bool b ∧ Both wx g w1.heap.size L j3 e3 ∧ Below w.heap.size w wx)
            case first =>
              go_wp2_with fail
              all_goals (go_meet; exact ⟨_, rfl, hbo3, hb3⟩)
            case rest =>
            obtain ⟨b, rfl, hbo3', hb3'⟩ := hcut
            clear hbo3 hb3 hk hm
            have hmm := hbo3'.2.1
            have hrr := hbo3'.1
            go_upto_if 88 with fail
            go_cut [] (fun wx => ∃ (j : Nat) (e : Int), Both wx g w1.heap.size L j e ∧ Below w.heap.size w wx)
            case first =>
              cases b
              · go_wp2_with fail
                go_meet
                exact ⟨j3, e3, hbo3', hb3'⟩
              · go_wp2_with (first
                  | (go_at_call 17
                     refine (bad_any g L j3 e3 8 _ hrr).mono ?_
                     rintro e9 w2 ⟨rfl, h2, hg2⟩)
                  | (go_at_call 18
                     refine (refBad_any w1.heap.size (L.drop j3) e3 8 _ (hbo3'.mid hg2)).mono ?_
                     rintro e8 w3 ⟨rfl, h3, hg3⟩))
                go_meet
                exact ⟨_, _, hbo3'.bad h2 hg2 h3 hg3, below_of_only (below_of_only hb3' hg2 hb3'.size hgl) hg3 (below_of_only hb3' hg2 hb3'.size hgl).size (Nat.le_trans hgl (Nat.le_of_lt hglt))⟩
            case rest =>
              obtain ⟨j4, e4, hbo4, hb4⟩ := hcut
              clear hbo3' hb3' hmm hrr
              have hj4 := hbo4.2.2.1
              have hls := left_size L j4 hj4
              obtain ⟨hcS, hcE, _, _, _⟩ := hbo4.2.1.cells
              go_upto_region 15 with fail
              go_cut [116] (fun s wx => s = .bool false ∧ ∃ (j : Nat) (e : Int), Both wx g w1.heap.size L j e ∧ Below w.heap.size w wx)
              case first =>
                go_quiet ((first
                  | (go_at_call 19; exact Calls.quiet_of (left_any g L j4 e4 _ (hbo4.1.drewN _)))
                  | (go_at_call 20; exact quiet_left (err_any g L j4 e4 _ (hbo4.1.drewN _)))
                  | (go_at_call 21; exact Calls.quiet_of (close_any g L j4 e4 _ (hbo4.1.drewN _)))
                  | (go_at_call 22; exact quiet_left (refClose_both w1.heap.size L j4 e4 _ hj4 hbo4.2.1))))
                go_wp2_with fail
                go_meet
                exact ⟨rfl, j4, e4, hbo4.drewN _, below_drewN hb4 _⟩
              case rest =>
                obtain ⟨rfl, j5, e5, hbo5, hb5⟩ := hcut
                go_wp2
                go_roundw
                case rel => exact ⟨i + 1, j5, e5, by omega, by omega, by go_num, hbo5, hb5⟩
                case measure => simp [intOf]; omega
      · clear hr0
        have hj := hbo.2.2.1
        have hls := left_size' L j hj
        have hst := str_toList
        obtain ⟨hcS, _, _, _, _⟩ := hbo.2.1.cells
        have hml := hbo.2.1.lt
        clear hr1
        go_wp2_with (first
          | (go_at_call 17
             refine (bad_nil 8 _).mono ?_
             rintro e9 w2 ⟨rfl, rfl⟩))
        go_region_held3 (fun w' => w'.cell? ⟨w1.heap.size, 0, none⟩ = some (.string (str (L.drop j)))) (first | exact hS | exact hcS | go_keep)
          (first
            | (go_at_call 13
               refine (num_nil 9 _).mono ?_
               rintro e9 w2 ⟨rfl, rfl⟩)
            | (go_at_call 15
               refine (str_nil 9 _).mono ?_
               rintro e9 w2 ⟨rfl, rfl⟩)
            | (go_at_call_of 19 (Value.pointer none)
               refine (left_nil _).mono ?_
               rintro e9 w2 ⟨rfl, rfl⟩)
            | (go_at_call 19
               refine (left_any g L j e _ ?_).mono ?_
               · exact hbo.1
               rintro e9 w2 ⟨rfl, nd, rfl⟩)
            | (go_at_call 20
               refine (err_nil _).mono ?_
               rintro e9 w2 ⟨rfl, rfl⟩)
            | (go_at_call 21
               refine (close_nil _).mono ?_
               rintro e9 w2 ⟨rfl, rfl⟩)
            | (go_at_call 7
               refine (awake_any _).mono ?_
               rintro e9 w7 ⟨rfl, hb7⟩
               have hS : w7.cell? ⟨w1.heap.size, 0, none⟩ = some (.string (str (L.drop j))) := (hb7.cell (p := ⟨w1.heap.size, 0, none⟩) hml).trans hcS
               have hbb7 : Below w.heap.size w w7 := ⟨hb7.os.trans hb.os, hb7.tape.trans hb.tape, hb7.output.trans hb.output, Nat.le_trans hb.size hb7.size, fun k hk => (hb7.block k (Nat.lt_of_lt_of_le hk hb.size)).trans (hb.block k hk)⟩))
        go_wp2
        go_ret
        exact ⟨rfl, hbb7⟩
    · clear hr0
      have hj := hbo.2.2.1
      have hls := left_size' L j hj
      have hst := str_toList
      obtain ⟨hcS, _, _, _, _⟩ := hbo.2.1.cells
      have hml := hbo.2.1.lt
      clear hr1
      go_wp2_with (first
        | (go_at_call 17
           refine (bad_nil 8 _).mono ?_
           rintro e9 w2 ⟨rfl, rfl⟩))
      go_region_held3 (fun w' => w'.cell? ⟨w1.heap.size, 0, none⟩ = some (.string (str (L.drop j)))) (first | exact hS | exact hcS | go_keep)
        (first
          | (go_at_call 13
             refine (num_nil 9 _).mono ?_
             rintro e9 w2 ⟨rfl, rfl⟩)
          | (go_at_call 15
             refine (str_nil 9 _).mono ?_
             rintro e9 w2 ⟨rfl, rfl⟩)
          | (go_at_call_of 19 (Value.pointer none)
             refine (left_nil _).mono ?_
             rintro e9 w2 ⟨rfl, rfl⟩)
          | (go_at_call 19
             refine (left_any g L j e _ ?_).mono ?_
             · exact hbo.1
             rintro e9 w2 ⟨rfl, nd, rfl⟩)
          | (go_at_call 20
             refine (err_nil _).mono ?_
             rintro e9 w2 ⟨rfl, rfl⟩)
          | (go_at_call 21
             refine (close_nil _).mono ?_
             rintro e9 w2 ⟨rfl, rfl⟩)
          | (go_at_call 7
             refine (awake_any _).mono ?_
             rintro e9 w7 ⟨rfl, hb7⟩
             have hS : w7.cell? ⟨w1.heap.size, 0, none⟩ = some (.string (str (L.drop j))) := (hb7.cell (p := ⟨w1.heap.size, 0, none⟩) hml).trans hcS
             have hbb7 : Below w.heap.size w w7 := ⟨hb7.os.trans hb.os, hb7.tape.trans hb.tape, hb7.output.trans hb.output, Nat.le_trans hb.size hb7.size, fun k hk => (hb7.block k (Nat.lt_of_lt_of_le hk hb.size)).trans (hb.block k hk)⟩))
      go_wp2
      go_ret
      exact ⟨rfl, hbb7⟩
end Go.Proofs.Ytgioaghhfcafpaa.Vlq
