/-
  Plain mathematics: a text's pieces, gone through rune by rune. No program.
-/
import Derived.Test.YtcgcgjcjgpcfiaaGreatDoorRuleMath
namespace Go.Proofs.YtcgcgjcjgpcfiaaGreatDoor.Rule
open Go.RowKit Go.Lib Go.Proofs.YtcgcgjcjgpcfiaaGreatDoor.Label
set_option linter.unusedVariables false
theorem decN_bytes (n b0 b1 b2 b3 : Nat) (h0 : b0 < 256) : ((decodeN n b0 b1 b2 b3).1 < 128 → (decodeN n b0 b1 b2 b3).2 = 1 ∧ (decodeN n b0 b1 b2 b3).1 = b0) ∧
    (128 ≤ (decodeN n b0 b1 b2 b3).1 → 128 ≤ b0 ∧ (1 < (decodeN n b0 b1 b2 b3).2 → 128 ≤ b1) ∧ (2 < (decodeN n b0 b1 b2 b3).2 → 128 ≤ b2) ∧ (3 < (decodeN n b0 b1 b2 b3).2 → 128 ≤ b3)) := by
  unfold decodeN
  repeat' split
  all_goals (refine ⟨fun h => ?_, fun h => ?_⟩)
  all_goals first | exact ⟨rfl, rfl⟩ | (exfalso; simp only at h; omega) | (refine ⟨by omega, fun g => ?_, fun g => ?_, fun g => ?_⟩ <;> first | omega | (simp only at g; omega))
theorem byt_L (l : List UInt8) (i : Nat) (h : i < l.length) : byt (str l) i = (l[i]).toNat := Ver.byt_str l i h
theorem rune_low (l : List UInt8) (i : Nat) (h : i < l.length) (hX : rn (str l) i < 128) : wd (str l) i = 1 ∧ rn (str l) i = (l[i]).toNat := by
  have := (decN_bytes ((str l).size - i) (byt (str l) i) (byt (str l) (i + 1)) (byt (str l) (i + 2)) (byt (str l) (i + 3)) (byt_lt _ _)).1
  unfold rn wd at *
  rw [dec_eq] at *
  rw [← byt_L l i h]
  exact this hX
theorem rune_high (l : List UInt8) (i j : Nat) (h : i + j < l.length) (hX : 128 ≤ rn (str l) i) (hj : j < wd (str l) i) : 128 ≤ (l[i + j]).toNat := by
  have h4 := wd_le4 (str l) i (by rw [str_size]; omega)
  have := (decN_bytes ((str l).size - i) (byt (str l) i) (byt (str l) (i + 1)) (byt (str l) (i + 2)) (byt (str l) (i + 3)) (byt_lt _ _)).2
  rw [← byt_L l (i + j) h]
  unfold rn wd at *
  rw [dec_eq] at *
  obtain ⟨a, b, c, d⟩ := this hX
  have hj4 : j = 0 ∨ j = 1 ∨ j = 2 ∨ j = 3 := by omega
  rcases hj4 with rfl | rfl | rfl | rfl
  · exact a
  · exact b (by omega)
  · exact c (by omega)
  · exact d (by omega)
theorem go_skip (x : List UInt8) : ∀ (m : List UInt8) (b : Nat) (cur : List UInt8) (ws : List W), (∀ c ∈ x, c ≠ 32 ∧ c ≠ 124) → go (x ++ m) b cur ws = go m b (cur ++ x) ws := by
  induction x with
  | nil => intro m b cur ws _; simp
  | cons c x ih =>
    intro m b cur ws h
    have hc := h c (by simp)
    rw [List.cons_append, go, if_neg hc.2, if_neg hc.1, ih _ _ _ _ fun d hd => h d (by simp [hd]), List.append_assoc]
    rfl
/-- What stands between two places. -/
def seg (l : List UInt8) (b e : Nat) : List UInt8 := (l.drop b).take (e - b)
theorem seg_len (l : List UInt8) {b e : Nat} (h : b ≤ e) (he : e ≤ l.length) : (seg l b e).length = e - b := by
  unfold seg; rw [List.length_take, List.length_drop]; omega
theorem seg_more (l : List UInt8) {b e f : Nat} (h : b ≤ e) (he : e ≤ f) : seg l b e ++ seg l e f = seg l b f := by
  unfold seg
  have e1 : f - b = (e - b) + (f - e) := by omega
  rw [e1, List.take_add, List.drop_drop]
  congr 3
  omega
theorem seg_self (l : List UInt8) (b : Nat) : seg l b b = [] := by simp [seg]
theorem seg_nil (l : List UInt8) {b e : Nat} (h : b ≤ e) (he : e ≤ l.length) : seg l b e = [] ↔ b = e := by
  constructor
  · intro hs
    have := seg_len l h he
    rw [hs] at this
    simp at this
    omega
  · rintro rfl; exact seg_self l b
theorem seg_front (l m : List UInt8) {b e : Nat} (h : b ≤ e) (he : e ≤ l.length) : seg (l ++ m) b e = seg l b e := by
  unfold seg
  rw [List.drop_append_of_le_length (by omega), List.take_append_of_le_length (by rw [List.length_drop]; omega)]
/-- The pieces from a place on. -/
def goAt (l : List UInt8) (pos b : Nat) (ws : List W) : List Pc := go (l.drop pos) b (seg l b pos) ws
theorem goAt_zero (l : List UInt8) : goAt l 0 0 [] = cutL l := by unfold goAt cutL; rw [seg_self]; rfl
theorem goAt_end (l : List UInt8) {b : Nat} (ws : List W) (h : b ≤ l.length) : goAt l l.length b ws = [(push (seg l b l.length) ws b, l.length)] := by
  unfold goAt
  rw [List.drop_length, go, seg_len l h (Nat.le_refl _)]
  congr 2; omega
theorem goAt_skip (l : List UInt8) {pos b V : Nat} (ws : List W) (hb : b ≤ pos) (hV : pos + V ≤ l.length) (h : ∀ j, j < V → (hj : pos + j < l.length) → l[pos + j] ≠ 32 ∧ l[pos + j] ≠ 124) :
    goAt l pos b ws = goAt l (pos + V) b ws := by
  unfold goAt
  have e : l.drop pos = seg l pos (pos + V) ++ l.drop (pos + V) := by
    unfold seg
    rw [Nat.add_sub_cancel_left, ← List.drop_drop, List.take_append_drop]
  rw [e, go_skip _ _ _ _ _ ?_, seg_more l hb (by omega)]
  intro c hc
  obtain ⟨j, hj, rfl⟩ := List.mem_iff_getElem.1 hc
  have hjl := seg_len l (Nat.le_add_right pos V) hV
  have hj2 : j < V := by omega
  have hg : (seg l pos (pos + V))[j] = l[pos + j]'(by omega) := by
    have e1 : (seg l pos (pos + V))[j]? = some (l[pos + j]'(by omega)) := by
      unfold seg
      rw [List.getElem?_take_of_lt (by omega), List.getElem?_drop]
      exact List.getElem?_eq_getElem _
    exact (List.getElem?_eq_some_iff.1 e1).2
  rw [hg]
  exact h j hj2 (by omega)
theorem goAt_rune (l : List UInt8) {pos b : Nat} (ws : List W) (hb : b ≤ pos) (hp : pos < l.length) (h1 : rn (str l) pos ≠ 32) (h2 : rn (str l) pos ≠ 124) : goAt l pos b ws = goAt l (pos + wd (str l) pos) b ws := by
  have hw := wd_le (str l) pos (by rw [str_size]; exact hp)
  rw [str_size] at hw
  refine goAt_skip l ws hb hw fun j hj hl => ?_
  by_cases hX : rn (str l) pos < 128
  · obtain ⟨e1, e2⟩ := rune_low l pos hp hX
    rw [e1] at hj
    have : j = 0 := by omega
    subst this
    refine ⟨fun e => h1 ?_, fun e => h2 ?_⟩
    · rw [e2]; simp only [Nat.add_zero] at e; rw [e]; rfl
    · rw [e2]; simp only [Nat.add_zero] at e; rw [e]; rfl
  · have := rune_high l pos j hl (by omega) hj
    refine ⟨fun e => ?_, fun e => ?_⟩
    · rw [e] at this; exact absurd this (by decide)
    · rw [e] at this; exact absurd this (by decide)
theorem at_blank (l : List UInt8) {pos : Nat} (hp : pos < l.length) (h : rn (str l) pos = 32) : wd (str l) pos = 1 ∧ l[pos] = 32 := by
  obtain ⟨e1, e2⟩ := rune_low l pos hp (by omega)
  refine ⟨e1, ?_⟩
  rw [h] at e2
  exact UInt8.toNat_inj.1 e2.symm
theorem at_mark (l : List UInt8) {pos : Nat} (hp : pos < l.length) (h : rn (str l) pos = 124) : wd (str l) pos = 1 ∧ l[pos] = 124 := by
  obtain ⟨e1, e2⟩ := rune_low l pos hp (by omega)
  refine ⟨e1, ?_⟩
  rw [h] at e2
  exact UInt8.toNat_inj.1 e2.symm
theorem goAt_blank (l : List UInt8) {pos b : Nat} (ws : List W) (hb : b ≤ pos) (hp : pos < l.length) (h : l[pos] = 32) : goAt l pos b ws = goAt l (pos + 1) (pos + 1) (push (seg l b pos) ws b) := by
  unfold goAt
  rw [List.drop_eq_getElem_cons hp, h, go, if_neg (by decide), if_pos rfl, seg_self, seg_len l hb (by omega)]
  congr 1; omega
theorem goAt_mark (l : List UInt8) {pos b : Nat} (ws : List W) (hb : b ≤ pos) (hp : pos < l.length) (h : l[pos] = 124) : goAt l pos b ws = (push (seg l b pos) ws b, pos) :: goAt l (pos + 1) (pos + 1) [] := by
  unfold goAt
  rw [List.drop_eq_getElem_cons hp, h, go, if_pos rfl, seg_self, seg_len l hb (by omega)]
  congr 2
  · omega
  · omega
theorem cut_mark (l : List UInt8) : cutL (l ++ [124]) = cutL l ++ [([], l.length + 1)] := by
  unfold cutL
  rw [go_mark]
  simp [go, push]
theorem cut_end {l : List UInt8} {ps : List Pc} {ws : List W} {b : Nat} (h : cutL l ++ [([], l.length + 1)] = ps ++ goAt (l ++ [124]) (l.length + 1) b ws) (hb : b ≤ l.length + 1) : cutL l = ps := by
  have e : (l ++ [124]).length = l.length + 1 := by simp
  have := goAt_end (l ++ [124]) ws (b := b) (by rw [e]; exact hb)
  rw [e] at this
  rw [this] at h
  exact (List.append_inj' h rfl).1
end Go.Proofs.YtcgcgjcjgpcfiaaGreatDoor.Rule
