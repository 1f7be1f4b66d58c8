/-
  Some texts of this claim, one behind the other: ProofRefLeaves. What each proves, and its condition, stands at its head.
-/
import Derived.Test.YtdggnakjfcmnmaaZB9
import Derived.Test.YtdggnakjfcmnmaaZB15
import Derived.Test.YtdggnakjfcmnmaaZB26
/-
  The contracts of the laws' Large of steps, and of the document's own Leaves of a proof. Condition of Leaves: no more than 1,000,000 steps.
-/
namespace Go.Proofs.Ytdggnakjfcmnmaa.Proof
open Go Go.RowKit Go.Lib Go.Proofs.Ytdggnakjfcmnmaa.Need Go.Proofs.Ytdggnakjfcmnmaa.Mani
set_option linter.unusedVariables false
def bigS (s : Sp) : Bool := decide (100 < s.name.size) || decide (100 < s.dest.size)
def largeS (l : List Sp) : Bool := (decide (300 < l.length ∧ l.length ≤ 1048576) || decide (1048586 < l.length)) || l.any bigS
theorem large_fine {l : List Sp} (h : largeS l = false) : ∀ s ∈ l, s.name.size ≤ 100 ∧ s.dest.size ≤ 100 := by
  unfold largeS at h
  simp only [Bool.or_eq_false_iff, List.any_eq_false] at h
  intro s hs
  have := h.2 s hs
  unfold bigS at this
  simp only [Bool.or_eq_true, decide_eq_true_eq, not_or] at this
  omega
theorem large_short {l : List Sp} (h : largeS l = false) : l.length ≤ 1048586 ∧ (l.length ≤ 1048576 → l.length ≤ 300) := by
  unfold largeS at h
  simp only [Bool.or_eq_false_iff, decide_eq_false_iff_not] at h
  omega
theorem bigS_drop {l : List Sp} {i : Nat} {q : Sp} (h : l[i]? = some q) : (l.drop i).any bigS = (bigS q || (l.drop (i + 1)).any bigS) := by
  obtain ⟨hi, rfl⟩ := List.getElem?_eq_some_iff.1 h
  rw [List.drop_eq_getElem_cons hi, List.any_cons]
set_option maxHeartbeats 4000000 in
set_option maxRecDepth 100000 in
theorem largeS_any (l : List Sp) (A : Option Addr) (n c : Nat) (w : World) (h : PfOn w A n l) (hn : n ≤ 9223372036854775807) :
    Calls Try.prog 6 #[.slice A n c] w fun e w' => e = .returned (.bool (largeS l)) ∧ w' = w := by
  have hlen := h.len
  have e : largeS l = ((decide (300 < n ∧ n ≤ 1048576) || decide (1048586 < n)) || l.any bigS) := by unfold largeS; rw [hlen]
  have Hl := hide e
  have Hd := hide (fun i q => @bigS_drop l i q)
  clear e
  generalize largeS l = L at *
  obtain ⟨F, hF⟩ : ∃ F, F = l.any bigS := ⟨_, rfl⟩
  rw [← hF] at Hl
  have HF := hide hF
  have Hlen := hide hlen
  clear hF hlen
  by_cases h6 : (300 < n ∧ n ≤ 1048576) ∨ 1048586 < n
  · have e : Hid (L = true) := hide (by
      rw [Hl.out]
      rcases h6 with h6 | h6
      · rw [decide_eq_true h6]; rfl
      · rw [decide_eq_true h6]; simp)
    clear Hl
    rcases h6 with ⟨h6, h7⟩ | h6
    · have h6z : (300 : Int) < (n : Int) := by omega
      have h7z : (n : Int) ≤ 1048576 := by omega
      go_enter Try.func6, Try.ntmps6
      go_wp2
      go_ret
      exact ⟨by rw [e.out]; rfl, rfl⟩
    · have h6z : (300 : Int) < (n : Int) := by omega
      have h7z : ¬ (n : Int) ≤ 1048576 := by omega
      have h8z : (1048586 : Int) < (n : Int) := by omega
      go_enter Try.func6, Try.ntmps6
      go_wp2
      go_ret
      exact ⟨by rw [e.out]; rfl, rfl⟩
  · have e0 : Hid (L = F) := hide (by rw [Hl.out, decide_eq_false (by omega), decide_eq_false (by omega)]; rfl)
    have h6z : (300 : Int) < (n : Int) → ¬ (n : Int) ≤ 1048576 := by omega
    have h8z : ¬ (1048586 : Int) < (n : Int) := by omega
    have hcase : ((300 : Int) < (n : Int) ∧ ¬ (n : Int) ≤ 1048576) ∨ ¬ (300 : Int) < (n : Int) := by omega
    clear Hl h6 h6z
    go_enter Try.func6, Try.ntmps6
    rcases hcase with ⟨h6z, h7z⟩ | h6z
    all_goals
      go_wp2
      go_loopw [3] (fun v wr => ∃ i : Nat, i ≤ n ∧ v = .int .i64 (i : Int) ∧ Hid (F = (l.drop i).any bigS) ∧ wr = w) (fun v _ => n - (RowKit.intOf v).toNat)
      case atStart => exact ⟨0, by omega, rfl, HF, rfl⟩
      case round =>
        obtain ⟨i, hi, rfl, hf, rfl⟩ := hrel
        by_cases hlt : i < n
        · obtain ⟨ad, q, rfl, hbl, hx, c0, c1, c2, c3, c4, c5⟩ := PfIn.at_ h hlt
          have hd := hf.out.trans (Hd.out i q hx)
          have j1 : (0 : Int) ≤ (i : Int) := by omega
          have j2 : (i : Int) < (n : Int) := by omega
          clear hx hf h
          by_cases hb : 100 < q.name.size
          · have e : Hid (F = true) := hide (by rw [hd]; unfold bigS; rw [decide_eq_true hb]; rfl)
            have hz : (100 : Int) < (q.name.size : Int) := by omega
            clear hd
            go_wp2
            go_ret
            exact ⟨by rw [e0.out, e.out]; rfl, rfl⟩
          · by_cases hb2 : 100 < q.dest.size
            · have e : Hid (F = true) := hide (by rw [hd]; unfold bigS; rw [decide_eq_true hb2]; simp)
              have hz : ¬ (100 : Int) < (q.name.size : Int) := by omega
              have hz2 : (100 : Int) < (q.dest.size : Int) := by omega
              clear hd
              go_wp2
              go_ret
              exact ⟨by rw [e0.out, e.out]; rfl, rfl⟩
            · have e : Hid (F = (l.drop (i + 1)).any bigS) := hide (by rw [hd]; unfold bigS; rw [decide_eq_false hb, decide_eq_false hb2]; rfl)
              have hz : ¬ (100 : Int) < (q.name.size : Int) := by omega
              have hz2 : ¬ (100 : Int) < (q.dest.size : Int) := by omega
              clear hd
              go_wp2
              go_roundw
              case rel => exact ⟨i + 1, by omega, by go_num, e, trivial⟩
              case measure => simp [RowKit.intOf]; omega
        · have e : Hid (F = false) := hide (by rw [hf.out, List.drop_of_length_le (by have := Hlen.out; omega)]; rfl)
          clear hf
          go_wp2
          go_ret
          exact ⟨by rw [e0.out, e.out]; rfl, rfl⟩
/-! Leaves. -/
def leafK (acc : List ByteArray) (s : Sp) : List ByteArray := if s.kind = 2 ∨ s.kind = 3 then addF s.name false acc else acc
def leavesT (l : List Sp) : List ByteArray := l.foldl leafK []
theorem leaves_next {l : List Sp} {i : Nat} {s : Sp} (h : l[i]? = some s) : leavesT (l.take (i + 1)) = leafK (leavesT (l.take i)) s := by
  unfold leavesT
  rw [List.take_add_one, h, List.foldl_append]
  rfl
theorem leaves_len (l : List Sp) : ∀ i, (leavesT (l.take i)).length ≤ i
  | 0 => by simp [leavesT]
  | i + 1 => by
    have ih := leaves_len l i
    cases h : l[i]? with
    | none =>
      have : l.length ≤ i := List.getElem?_eq_none_iff.1 h
      rw [List.take_of_length_le (by omega)]
      rw [List.take_of_length_le (by omega)] at ih
      omega
    | some s =>
      rw [leaves_next h]
      unfold leafK
      split
      · have := addF_len s.name (leavesT (l.take i))
        omega
      · omega
theorem leaves_rises (l : List Sp) : RisesN (leavesT l) := by
  have key : ∀ (l : List Sp) (acc : List ByteArray), RisesN acc → RisesN (l.foldl leafK acc) := by
    intro l
    induction l with
    | nil => intro acc h; exact h
    | cons s t ih =>
      intro acc h
      refine ih _ ?_
      unfold leafK
      split
      · exact addF_rises s.name h
      · exact h
  exact key l [] (by simp [RisesN])
theorem leaves_mem (l : List Sp) (z : ByteArray) : z ∈ leavesT l ↔ ∃ s ∈ l, (s.kind = 2 ∨ s.kind = 3) ∧ s.name = z := by
  have key : ∀ (l : List Sp) (acc : List ByteArray), z ∈ l.foldl leafK acc ↔ z ∈ acc ∨ ∃ s ∈ l, (s.kind = 2 ∨ s.kind = 3) ∧ s.name = z := by
    intro l
    induction l with
    | nil => intro acc; simp
    | cons s t ih =>
      intro acc
      rw [List.foldl_cons, ih]
      unfold leafK
      by_cases hk : s.kind = 2 ∨ s.kind = 3
      · rw [if_pos hk, addF_mem]
        simp only [List.mem_cons, exists_eq_or_imp, hk, true_and]
        constructor
        · rintro ((rfl | h) | h)
          · exact .inr (.inl rfl)
          · exact .inl h
          · exact .inr (.inr h)
        · rintro (h | rfl | h)
          · exact .inl (.inr h)
          · exact .inl (.inl rfl)
          · exact .inr h
      · rw [if_neg hk]
        simp only [List.mem_cons, exists_eq_or_imp, hk, false_and, false_or]
  have := key l []
  simpa [leavesT] using this
end Go.Proofs.Ytdggnakjfcmnmaa.Proof
