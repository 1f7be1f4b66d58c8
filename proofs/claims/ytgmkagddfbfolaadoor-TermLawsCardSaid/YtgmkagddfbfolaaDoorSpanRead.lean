/-
  Contracts of what tells of spans and writes nothing that was there: told, the closures, edge, passed, Has, Count, Least, Most, the document's own ones. Condition: the slice reads as spans.
-/
import Derived.Test.YtgmkagddfbfolaaDoorSpanCells
namespace Go.Proofs.YtgmkagddfbfolaaDoor.Span
open Go.RowKit Go.Lib
set_option linter.unusedVariables false
theorem union1_any (x y : Bool) (w : World) : Calls Tryd.prog 63 #[.bool x, .bool y] w fun e w' => e = .returned (.bool (x || y)) ∧ w = w' := by
  cases x <;> cases y <;> (
    go_enter Tryd.func63, Tryd.ntmps63
    go_wp2
    go_ret
    exact ⟨rfl, rfl⟩)
theorem meet1_any (x y : Bool) (w : World) : Calls Tryd.prog 62 #[.bool x, .bool y] w fun e w' => e = .returned (.bool (x && y)) ∧ w = w' := by
  cases x <;> cases y <;> (
    go_enter Tryd.func62, Tryd.ntmps62
    go_wp2
    go_ret
    exact ⟨rfl, rfl⟩)
theorem not1_any (x y : Bool) (w : World) : Calls Tryd.prog 60 #[.bool x, .bool y] w fun e w' => e = .returned (.bool (!x)) ∧ w = w' := by
  cases x <;> cases y <;> (
    go_enter Tryd.func60, Tryd.ntmps60
    go_wp2
    go_ret
    exact ⟨rfl, rfl⟩)
theorem within1_any (x y : Bool) (w : World) : Calls Tryd.prog 64 #[.bool x, .bool y] w fun e w' => e = .returned (.bool (x && !y)) ∧ w = w' := by
  cases x <;> cases y <;> (
    go_enter Tryd.func64, Tryd.ntmps64
    go_wp2
    go_ret
    exact ⟨rfl, rfl⟩)
def toldM (op : Int) (x y : Bool) : Bool := if op = 0 then x || y else if op = 1 then x && y else !x
theorem told_any (op : Int) (x y : Bool) (w : World) : Calls Tryd.prog 74 #[.int .i64 op, .bool x, .bool y] w fun e w' => e = .returned (.bool (toldM op x y)) ∧ w = w' := by
  unfold toldM
  by_cases h0 : op = 0
  · subst h0
    cases x <;> cases y <;> (
      go_enter Tryd.func74, Tryd.ntmps74
      go_wp2
      go_ret
      exact ⟨rfl, rfl⟩)
  · by_cases h1 : op = 1
    · subst h1
      cases x <;> cases y <;> (
        go_enter Tryd.func74, Tryd.ntmps74
        go_wp2
        go_ret
        exact ⟨rfl, rfl⟩)
    · cases x <;> cases y <;> (
        go_enter Tryd.func74, Tryd.ntmps74
        go_wp2
        go_ret
        exact ⟨rfl, rfl⟩)
set_option maxHeartbeats 1000000 in
theorem edge_any {B n c : Nat} {A : Option Addr} {l : List S} (k : Nat) (w : World) (h : SpIn w B A n l) (hn : n ≤ 1000000001) (hk : k ≤ 2 * n) :
    Calls Tryd.prog 71 #[.slice A n c, .int .i64 (k : Int)] w fun e w' => e = .returned (.int .i64 (edge l k)) ∧ w = w' := by
  have hl : l.length = n := h.1
  by_cases h1 : k = 2 * n
  · have e : edge l k = 1000000000 := by subst h1; rw [← hl]; exact edge_top l
    rw [e]
    have g1 : ((k : Int) == (n : Int) * 2) = true := by simp; omega
    have g2 : ((k : Int) == 2 * (n : Int)) = true := by simp; omega
    clear e
    go_enter Tryd.func71, Tryd.ntmps71
    go_wp2
    go_ret
    exact ⟨rfl, rfl⟩
  · obtain ⟨ad, s, rfl, hb, hs, c1, c2⟩ := h.at_ (k := k / 2) (by omega)
    have e : edge l k = if k % 2 = 0 then s.1 else s.2 := by
      unfold edge
      rw [hl, if_neg h1, hs]; rfl
    rw [e]
    obtain ⟨m, hm⟩ : ∃ m, m = k / 2 := ⟨_, rfl⟩
    rw [← hm] at c1 c2
    by_cases h2 : k % 2 = 0
    · rw [if_pos h2]
      have hk2 : k = 2 * m := by omega
      subst hk2
      clear hm e h2
      go_enter Tryd.func71, Tryd.ntmps71
      go_wp2
      go_ret
      exact ⟨rfl, rfl⟩
    · rw [if_neg h2]
      have hk2 : k = 2 * m + 1 := by omega
      subst hk2
      rw [hm] at c1 c2
      clear hm e h2
      go_enter Tryd.func71, Tryd.ntmps71
      go_wp2
      go_ret
      exact ⟨rfl, rfl⟩
set_option maxHeartbeats 1000000 in
theorem passed_any {B n c : Nat} {A : Option Addr} {l : List S} (k : Nat) (p : Int) (w : World) (h : SpIn w B A n l) (hn : n ≤ 1000000001) (hp : p < 1000000000) (hk : Past l p k) :
    Calls Tryd.prog 70 #[.slice A n c, .int .i64 (k : Int), .int .i64 p] w fun e w' => (∃ m : Nat, e = .returned (.int .i64 (m : Int)) ∧ Past l p m ∧ p < edge l m) ∧ w = w' := by
  have hl : l.length = n := h.1
  go_enter Tryd.func70, Tryd.ntmps70
  go_wp2
  go_loopw [1] (fun v wr => ∃ (m : Nat), v = .int .i64 (m : Int) ∧ Past l p m ∧ w = wr) (fun v _ => 2 * n - (intOf v).toNat)
  case atStart => exact ⟨k, rfl, hk, rfl⟩
  case round =>
    obtain ⟨m, rfl, hm, rfl⟩ := hrel
    have hm1 : m ≤ 2 * n := by rw [← hl]; exact hm.1
    have He := hide (@edge_any B n c A l m w h hn hm1)
    have Hs := hide (fun hx => hm.succ hx hp)
    have Hm := hide hm
    obtain ⟨q, hq⟩ : ∃ q, q = edge l m := ⟨_, rfl⟩
    rw [← hq] at He Hs
    have Hq := hide hq
    clear hm hk hq
    by_cases hc : q ≤ p
    · go_wp2_with (go_at_call 71; refine He.out.mono ?_; rintro e w1 ⟨rfl, rfl⟩)
      have hs := Hs.out hc
      have h2 := hs.1
      go_roundw
      case rel => exact ⟨m + 1, by go_num, hs, trivial⟩
      case measure => simp [intOf]; omega
    · go_wp2_with (go_at_call 71; refine He.out.mono ?_; rintro e w1 ⟨rfl, rfl⟩)
      go_ret
      exact ⟨⟨m, rfl, Hm.out, by rw [← Hq.out]; omega⟩, rfl⟩
end Go.Proofs.YtgmkagddfbfolaaDoor.Span
