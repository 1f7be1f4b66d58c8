/-
  Some texts of this claim, one behind the other: NeedPieces. What each proves, and its condition, stands at its head.
-/
import Derived.Test.YtmcpdcfeappokaaGreatDoorZ25
import Derived.RangeFuncNested
import Derived.RangeFuncBound
import Derived.RangeFuncCalls
import Derived.RangeFuncLeaves
import Derived.Shelf.Abstract
import Derived.OwnWalkIn
import Derived.TacticsInMore
import Derived.LoopNIn
import Derived.LoopIn
/-
  The iterator of pieces: where each begins, what it is, one after the other. Condition: a text of at most 2,000 bytes.
-/
namespace Go.Proofs.YtmcpdcfeappokaaGreatDoor.Need
open Go Go.RowKit Go.Lib
set_option linter.unusedVariables false
attribute [local go_sem] Oper.semAt_some
theorem cutR_less {l : List UInt8} {c : UInt8} (h : hasC c l = true) : (cutR c l).length < l.length ∧ (cutF c l).length + 1 + (cutR c l).length = l.length := by
  obtain ⟨_, h2, _⟩ := index_has l h
  unfold cutR
  rw [List.length_drop]
  omega
/-- The pieces of a text that begins at a place. -/
def pcsOf (b : Nat) (l : List UInt8) : List (Nat × List UInt8) :=
  if h : hasC 59 l = true then (b, cutF 59 l) :: pcsOf (b + (cutF 59 l).length + 1) (cutR 59 l) else [(b, l)]
  termination_by l.length
  decreasing_by exact (cutR_less h).1
theorem pcs_yes {b : Nat} {l : List UInt8} (h : hasC 59 l = true) : pcsOf b l = (b, cutF 59 l) :: pcsOf (b + (cutF 59 l).length + 1) (cutR 59 l) := by rw [pcsOf, dif_pos h]
theorem pcs_no {b : Nat} {l : List UInt8} (h : hasC 59 l = false) : pcsOf b l = [(b, l)] := by rw [pcsOf, dif_neg (by rw [h]; simp)]
theorem pcs_count (n : Nat) : ∀ (b : Nat) (l : List UInt8), l.length = n → (pcsOf b l).length ≤ n + 1 := by
  induction n using Nat.strongRecOn with
  | _ n ih =>
    intro b l hl
    cases h : hasC 59 l with
    | false => rw [pcs_no h]; simp
    | true =>
      have := cutR_less h
      rw [pcs_yes h]
      have := ih (cutR 59 l).length (by omega) (b + (cutF 59 l).length + 1) (cutR 59 l) rfl
      simp only [List.length_cons]
      omega
theorem pcs_pos (b : Nat) (l : List UInt8) : 0 < (pcsOf b l).length := by
  cases h : hasC 59 l with
  | false => rw [pcs_no h]; simp
  | true => rw [pcs_yes h]; simp
/-- A piece: where it begins, and what it is. -/
abbrev Piece := { x : Nat × List UInt8 // x.1 ≤ 2000 ∧ x.2.length ≤ 2000 }
def encP (x : Piece) : Array Value := #[.int .i64 (x.1.1 : Int), .string (str x.1.2)]
theorem cutF_le (c : UInt8) (l : List UInt8) : (cutF c l).length ≤ l.length := (List.takeWhile_sublist _).length_le
def leftV : Value → Value → Nat
  | .string s, .bool true => s.size + 1
  | _, _ => 0
set_option maxRecDepth 100000 in
set_option maxHeartbeats 2000000 in
theorem pieces1_in (l n₀ Bn : Nat) (s : List UInt8) (hs : s.length ≤ 2000) (J Jx : List Piece → World → Prop) (n : Nat) (hn : 3 ≤ n)
    (W : World) (hJ : AbidesFrom W.heap.size J)
    (hY : ∀ pre x W, J pre W → pre.length < 2001 → YieldAt Fence.wide (n - 1) Tryz.prog l (encP x) W fun e W' =>
      (e = .returned (.bool true) ∧ J (pre ++ [x]) W' ∧ Below n₀ W W') ∨ (e = .returned (.bool false) ∧ Jx (pre ++ [x]) W'))
    (hBn : W.cell? ⟨Bn, 0, none⟩ = some (.string (str s))) (h0 : J [] W) :
    CallsIn Fence.wide n Tryz.prog 49 #[.func (.yield l) #[] #[], .pointer (some ⟨Bn, 0, none⟩)] W fun e W' => (∃ v, e = .returned v) ∧
      ((∃ ys : List Piece, ys.map Subtype.val = pcsOf 0 s ∧ J ys W') ∨ (∃ pre : List Piece, pre.map Subtype.val <+: pcsOf 0 s ∧ Jx pre W')) := by
  have hcnt := pcs_count s.length 0 s rfl
  obtain ⟨P, hP⟩ : ∃ P, P = pcsOf 0 s := ⟨_, rfl⟩
  rw [← hP] at hcnt ⊢
  have HP := hide hP
  have Hcnt := hide hcnt
  clear hP hcnt
  refine callsIn_of_wp Tryz.func49 rfl trivial ?_ rfl
  simp only [Tryz.ntmps49, List.size_toArray, List.length_cons, List.length_nil, Nat.reduceAdd, Nat.reduceSub, Array.replicate_succ, Array.replicate_zero, List.push_toArray, List.append_toArray, List.nil_append, List.cons_append]
  gi_wp2
  gi_region
  gi_wp2
  gi_loopw [3, 4, 5] (fun p q r wr => ∃ (b : Nat) (t : List UInt8) (more : Bool) (pre : List Piece), p = .int .i64 (b : Int) ∧ q = .string (str t) ∧ r = .bool more ∧ J pre wr ∧ Hid (more = true → pre.map Subtype.val ++ pcsOf b t = P ∧ b + t.length ≤ 2000) ∧ Hid (more = false → pre.map Subtype.val = P)) (fun p q r _ => leftV q r)
  case atStart => exact ⟨0, s, true, [], rfl, rfl, rfl, by first | exact h0 | exact hJ _ _ _ none h0 ⟨rfl, rfl, rfl, Nat.le_refl _, fun _ _ _ => rfl⟩ (fun _ h => by cases h), hide (fun _ => ⟨by rw [HP.out]; rfl, by omega⟩), hide (fun h => by cases h)⟩
  case round =>
    obtain ⟨b, t, more, pre, rfl, rfl, rfl, hJr, h1, h2⟩ := hrel
    cases more
    · have he := h2.out rfl
      gi_wp2
      go_end0
      exact ⟨⟨_, rfl⟩, .inl ⟨pre, he, hJr⟩⟩
    · obtain ⟨hp, hbt⟩ := h1.out rfl
      have hc := hide (cut_any t 59 wr (by omega))
      have hxl := cutF_le 59 t
      obtain ⟨x, hx⟩ : ∃ x : Piece, x.1 = (b, cutF 59 t) := ⟨⟨(b, cutF 59 t), by show b ≤ 2000; omega, by show (cutF 59 t).length ≤ 2000; omega⟩, rfl⟩
      have henc : encP x = #[.int .i64 (b : Int), .string (str (cutF 59 t))] := by unfold encP; rw [hx]
      have hpl : pre.length < 2001 := by
        have e := congrArg List.length hp
        rw [List.length_append, List.length_map] at e
        have := pcs_pos b t
        have := Hcnt.out
        omega
      have hmore := hide (show hasC 59 t = true → (pre ++ [x]).map Subtype.val ++ pcsOf (b + (cutF 59 t).length + 1) (cutR 59 t) = P ∧ (b + (cutF 59 t).length + 1) + (cutR 59 t).length ≤ 2000 from fun h => by
        have := cutR_less h
        refine ⟨?_, by omega⟩
        rw [pcs_yes h] at hp
        rw [← hp, List.map_append]
        simp [hx])
      have hlast := hide (show hasC 59 t = false → (pre ++ [x]).map Subtype.val = P from fun h => by
        rw [pcs_no h] at hp
        rw [← hp, List.map_append]
        simp [hx, (index_lacks t h).2.1])
      have hpre : (pre ++ [x]).map Subtype.val <+: P := by
        cases h : hasC 59 t with
        | true => exact ⟨_, (hmore.out h).1⟩
        | false => rw [hlast.out h]; exact List.prefix_refl _
      have Hpre := hide hpre
      have hmes := hide (show hasC 59 t = true → (str (cutR 59 t)).size < (str t).size from fun h => by rw [str_size, str_size]; exact (cutR_less h).1)
      have hyx := hide (fun w1 (h : J pre w1) => hY pre x w1 h hpl)
      have hJa := hide (fun w1 (hb1 : Below wr.heap.size wr w1) => hJ pre wr w1 none hJr ⟨hb1.os, hb1.tape, hb1.output, hb1.size, fun i hi _ => hb1.block i hi⟩ (fun _ h => by cases h))
      have hsz := str_size (cutF 59 t)
      clear hp hpre hx h1 h2 hY hJ h0 HP
      rw [henc] at hyx
      generalize hasC 59 t = mr at *
      generalize cutR 59 t = rt at *
      generalize cutF 59 t = ft at *
      gi_wp2_with (refine ⟨trivial, fun _ => by omega, ?_⟩; gi_at_call 50; refine (callsIn_wide.2 hc.out).mono ?_; rintro e w1 ⟨rfl, hb1⟩; obtain ⟨fn, tmps, assign, body, hy, hR⟩ := hyx.out w1 (hJa.out w1 hb1))

      refine ⟨fun _ => by omega, hR.mono ?_⟩
      rintro e W3 (⟨rfl, hJ3, hk3⟩ | ⟨rfl, hJx3⟩)
      · gi_wp2
        go_roundw
        case rel => exact ⟨b + ft.length + 1, rt, mr, pre ++ [x], by go_num, rfl, rfl, hJ3, hmore, hlast⟩
        case measure =>
          cases mr
          · simp [leftV]
          · have := hmes.out rfl
            simp [leftV]
            omega
      · gi_wp2
        refine bodyPost_ret (results_none rfl _ _ _) rfl ?_
        exact ⟨⟨_, rfl⟩, .inr ⟨pre ++ [x], Hpre.out, hJx3⟩⟩
theorem pieces_stops (s : List UInt8) (hs : s.length ≤ 2000) (n₀ Bn n : Nat) (hn : 3 ≤ n) (w : World) (hBn : Bn < w.heap.size) (hc : w.cell? ⟨Bn, 0, none⟩ = some (.string (str s))) :
    SeqStopsK Fence.wide n Tryz.prog 49 #[.pointer (some ⟨Bn, 0, none⟩)] encP (Below n₀) (fun ys => ys.map Subtype.val = pcsOf 0 s) (fun pre => pre.map Subtype.val <+: pcsOf 0 s) 2001 w := fun l J Jx W hW hJ _ hY h0 =>
  pieces1_in l n₀ Bn s hs J Jx n hn W hJ hY ((hW.cell (p := ⟨Bn, 0, none⟩) hBn).trans hc) h0
theorem pieces_any (s : ByteArray) (w : World) :
    Calls Tryz.prog 35 #[.string s] w fun e w' => e = .returned (.func (.func 49) #[] #[.pointer (some ⟨w.heap.size, 0, none⟩)]) ∧ w' = w.alloc (.cells #[.string s] 9) := by
  go_enter Tryz.func35, Tryz.ntmps35
  go_wp2
  go_ret
  exact ⟨rfl, rfl⟩
end Go.Proofs.YtmcpdcfeappokaaGreatDoor.Need
