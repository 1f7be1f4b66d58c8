/-
  Some texts of this claim, one behind the other: ProofRefTrim. What each proves, and its condition, stands at its head.
-/
import Derived.Test.YtdggnakjfcmnmaaZB9
import Derived.Test.YtdggnakjfcmnmaaZB15
import Derived.Test.YtdggnakjfcmnmaaZB22
import Derived.Deep.OwnRows
/-
  The contract of the document's own Trim of a proof: the steps that its last one uses. Condition: a proof that may be.
-/
namespace Go.Proofs.Ytdggnakjfcmnmaa.Proof
open Go Go.RowKit Go.Lib Go.Proofs.Ytdggnakjfcmnmaa.Need
set_option linter.unusedVariables false
theorem rowIs_below {w w' : World} {b B n : Nat} {t : TypeId} {f : Nat → Value} (h : w.rowIs b t n f) (hb : Below B w w') (hg : b < B) : w'.rowIs b t n f := h.of_block (hb.block b hg)
theorem own_apart {w w' : World} {B size n : Nat} {T : TypeId} {v : Value} {xs : List Value} {row : Option Nat} (h : w.ownsRow B T size v n xs) (hg : w.grownBy w' row) (hne : ∀ b, v.ownBlock = some b → some b ≠ row) : w'.ownsRow B T size v n xs := by
  refine ⟨h.1, ?_⟩
  rcases h.2 with hn | ⟨g, cap, cur, hv, hB, hh, r⟩
  · exact .inl hn
  · exact .inr ⟨g, cap, cur, hv, hB, (hg.block g (Array.getElem?_eq_some_iff.1 hh).1 (hne g (by rw [hv]; rfl))).trans hh, r⟩
theorem NewPf.store {w : World} {B n c : Nat} {A : Option Addr} {l : List Sp} (h : NewPf w B A n c l) {g : Nat} (hg : g < B) (i : Nat) (u : Value) : NewPf (w.setCell ⟨g, i, none⟩ u) B A n c l := by
  have hown := own_apart h.2.2.1 (only_setCell (p := ⟨g, i, none⟩) (only_self w g) (.inl rfl) u) (fun b hb e => by
    injection e with e
    have := (h.2.2.1.lt b hb).1
    omega)
  obtain ⟨A', c', e, hN⟩ := newPf_of_own hown
  injection e with e1 e2 e3
  subst e1 e3
  exact hN
theorem set_only_ (w : World) (b i : Nat) (u : Value) : w.grownBy (w.setCell ⟨b, i, none⟩ u) (some b) := only_setCell (p := ⟨b, i, none⟩) (only_self w b) (.inl rfl) _
theorem left_len_ {l : List Sp} {i n : Nat} {out : List Sp} (h : out = (List.range i).filterMap (leftT l)) (hl : l.length = n) (hi : i ≤ n) : out.length = atT l i := by
  rw [h]
  exact left_len i (by omega)
theorem at_row {l : List Sp} {At : Nat → Nat} {i no : Nat} (h : ∀ j, j < i → At j = atT l j) (hno : no = atT l i) : ∀ j, j < i + 1 → (if j = i then no else At j) = atT l j := fun j hj => by
  by_cases e : j = i
  · rw [if_pos e, e]; exact hno
  · rw [if_neg e]; exact h j (by omega)
theorem at_cells (At : Nat → Nat) (i no j : Nat) : (if j = i then Value.int .i64 (no : Int) else Value.int .i64 (At j : Int)) = Value.int .i64 (((if j = i then no else At j : Nat)) : Int) := by
  by_cases e : j = i
  · rw [if_pos e, if_pos e]
  · rw [if_neg e, if_neg e]
theorem left_more {l : List Sp} {i : Nat} {s : Sp} (hs : l[i]? = some s) : (List.range (i + 1)).filterMap (leftT l) = (List.range i).filterMap (leftT l) ++ (if usedT l i = true then [reS l s] else []) := by
  rw [List.range_succ, List.filterMap_append]
  congr 1
  unfold leftT
  by_cases hu : usedT l i = true
  · simp [hs, hu]
  · simp [hs, hu]
theorem mark_next {l : List Sp} {j : Nat} {s : Sp} (hs : l[j]? = some s) (u : Nat → Bool) : markT l (j + 1) u = markT l j (if u j = true ∧ s.kind = 4 then setU (setU u s.a.toNat) s.b.toNat else u) := by
  unfold markT
  rw [step_some hs]
  cases j <;> rfl
theorem set_two (u : Nat → Bool) (a b : Nat) (j : Nat) : (if j = b then Value.bool true else if j = a then Value.bool true else Value.bool (u j)) = Value.bool (setU (setU u a) b j) := by
  unfold setU
  by_cases h1 : j = b
  · simp [h1]
  · by_cases h2 : j = a
    · simp [h2]
    · simp [h1, h2]
end Go.Proofs.Ytdggnakjfcmnmaa.Proof
