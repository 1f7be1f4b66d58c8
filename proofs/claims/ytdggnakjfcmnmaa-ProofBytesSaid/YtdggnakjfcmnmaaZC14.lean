/-
  Some texts of this claim, one behind the other: WireNum, WireRd. What each proves, and its condition, stands at its head.
-/
import Derived.Test.YtdggnakjfcmnmaaZC12
import Derived.Test.YtdggnakjfcmnmaaZC13
import Derived.Lib.Strings
/-
  Plain mathematics of numbers, texts and lists as bytes: what is written, what is read, what was written is read, and what is read was written so. No program.
-/
namespace Go.Proofs.Ytdggnakjfcmnmaa.Wire
open Go.RowKit Go.Lib
open Go.Proofs.Ytdggnakjfcmnmaa.Vlq (enc held held_le held_of enc_pos hi hi_zero hi_pos val look_enc look_most look_le numM strM closedM wd width val_snoc)
set_option linter.unusedVariables false
def encN (n : Int) : List UInt8 := enc (held n)
def flat {α : Type} (B : α → List UInt8) (l : List α) : List UInt8 := l.flatMap B
def listB {α : Type} (B : α → List UInt8) (l : List α) : List UInt8 := encN l.length ++ flat B l
def textB (nm : ByteArray) : List UInt8 := enc nm.size ++ nm.data.toList
theorem flat_append {α : Type} (B : α → List UInt8) (l m : List α) : flat B (l ++ m) = flat B l ++ flat B m := by simp [flat]
theorem flat_one {α : Type} (B : α → List UInt8) (x : α) : flat B [x] = B x := by simp [flat]
theorem flat_take {α : Type} (B : α → List UInt8) (l : List α) (i : Nat) (x : α) (h : l[i]? = some x) : flat B (l.take (i + 1)) = flat B (l.take i) ++ B x := by
  rw [List.take_add_one, h, flat_append]; simp [flat]
theorem flat_len {α : Type} (B : α → List UInt8) (l : List α) (k : Nat) (h : ∀ x ∈ l, (B x).length ≤ k) : (flat B l).length ≤ l.length * k := by
  induction l with
  | nil => simp [flat]
  | cons x t ih =>
    have h1 := h x (by simp)
    have h2 := ih fun y hy => h y (by simp [hy])
    simp only [flat, List.flatMap_cons, List.length_append, List.length_cons] at h2 ⊢
    rw [Nat.add_mul]
    omega
theorem encN_six (n : Int) : (encN n).length ≤ 6 := Vlq.enc_length _ (held_le _)
theorem encN_one (n : Int) (h : n ≤ 100) : (encN n).length ≤ 1 := by
  have hh : held n ≤ 100 := by unfold held; omega
  have := Vlq.hi_length (held n / 128) 0 (by omega)
  unfold encN enc
  rw [List.length_append, List.length_singleton]
  omega
theorem textB_len (nm : ByteArray) (h : nm.size ≤ 24) : (textB nm).length ≤ 25 := by
  have h1 := encN_one (nm.size : Int) (by omega)
  have h2 : encN (nm.size : Int) = enc nm.size := by
    unfold encN
    have := held_of (nm.size : Int) (by omega) (by omega)
    congr 1
    omega
  rw [h2] at h1
  unfold textB
  rw [List.length_append, ← Lib.size_eq]
  omega
abbrev St := List UInt8 × Int
def numS (most : Int) (s : St) : Int × St := numM s.1 s.2 most
def strS (most : Int) (s : St) : List UInt8 × St := strM s.1 s.2 most
def listS {α : Type} (one : St → α × St) : Nat → St → List α × St
  | 0, s => ([], s)
  | n + 1, s => ((listS one n s).1 ++ [(one (listS one n s).2).1], (one (listS one n s).2).2)
def takeS {α : Type} (most : Int) (one : St → α × St) (s : St) : List α × St := listS one (numS most s).1.toNat (numS most s).2
theorem listS_len {α : Type} (one : St → α × St) (n : Nat) (s : St) : (listS one n s).1.length = n := by
  induction n with
  | zero => rfl
  | succ n ih => simp [listS, ih]
theorem numS_le (most : Int) (h0 : 0 ≤ most) (s : St) : 0 ≤ (numS most s).1 ∧ (numS most s).1 ≤ most := by
  unfold numS numM
  split
  · exact ⟨Int.le_refl _, h0⟩
  · refine ⟨by simp only; omega, ?_⟩
    by_cases he : (Vlq.look s.1 most).2.2 = 0
    · exact look_most _ _ he
    · have := ((look_le s.1 most).2.2.2 he).2
      simp only [this]
      exact h0
theorem takeS_len {α : Type} (most : Int) (h0 : 0 ≤ most) (one : St → α × St) (s : St) : (takeS most one s).1.length ≤ most.toNat := by
  unfold takeS
  rw [listS_len]
  have := numS_le most h0 s
  omega
theorem listS_all {α : Type} {one : St → α × St} {P : α → Prop} (h : ∀ s, P (one s).1) (n : Nat) (s : St) : ∀ x ∈ (listS one n s).1, P x := by
  induction n with
  | zero => intro x hx; cases hx
  | succ n ih =>
    intro x hx
    simp only [listS, List.mem_append, List.mem_singleton] at hx
    rcases hx with hx | rfl
    · exact ih x hx
    · exact h _
theorem strS_len (most : Int) (h0 : 0 ≤ most) (s : St) : ((strS most s).1.length : Int) ≤ most := by
  unfold strS strM
  split
  · simpa using h0
  · split
    · simpa using h0
    · split
      · simpa using h0
      · rename_i h1 h2 h3
        have := look_most s.1 most (by simpa using h2)
        have h4 : ((s.1.drop (Vlq.look s.1 most).2.1).take (Vlq.look s.1 most).1).length ≤ (Vlq.look s.1 most).1 := List.length_take_le _ _
        simp only
        omega
def Back {α : Type} (one : St → α × St) (B : α → List UInt8) (P : α → Prop) : Prop := ∀ x t, P x → one (B x ++ t, 0) = (x, (t, 0))
theorem numS_back (most n : Int) (t : List UInt8) (h0 : 0 ≤ n) (h1 : n ≤ most) (h2 : n ≤ 1099511627776) : numS most (encN n ++ t, 0) = (n, (t, 0)) := by
  have hh := held_of n h0 h2
  unfold numS numM encN
  rw [if_neg (by simp), look_enc (held n) (held_le n) t most (by omega)]
  simp [hh]
theorem strS_back (most : Int) (nm : ByteArray) (t : List UInt8) (h1 : (nm.size : Int) ≤ most) (h2 : nm.size ≤ 1000000) : strS most (textB nm ++ t, 0) = (nm.data.toList, (t, 0)) := by
  have hl : nm.data.toList.length = nm.size := (Lib.size_eq nm).symm
  unfold strS strM textB
  rw [List.append_assoc, if_neg (by simp), look_enc nm.size (by omega) _ most h1]
  simp only
  rw [if_neg (by simp), if_neg (by simp [hl])]
  rw [List.drop_left, ← hl, List.take_left, ← List.drop_drop, List.drop_left, List.drop_left]
theorem listS_back {α : Type} {one : St → α × St} {B : α → List UInt8} {P : α → Prop} (h : Back one B P) (l : List α) (hl : ∀ x ∈ l, P x) (t : List UInt8) : ∀ n, n ≤ l.length → listS one n (flat B l ++ t, 0) = (l.take n, (flat B (l.drop n) ++ t, 0)) := by
  intro n
  induction n with
  | zero => intro _; simp [listS]
  | succ n ih =>
    intro hn
    have hx : l[n]? = some l[n] := by simp
    have e := ih (by omega)
    unfold listS
    rw [e]
    simp only
    have e2 : flat B (l.drop n) ++ t = B l[n] ++ (flat B (l.drop (n + 1)) ++ t) := by
      rw [List.drop_eq_getElem_cons (show n < l.length by omega)]
      simp only [flat, List.flatMap_cons, List.append_assoc]
    rw [e2, h _ _ (hl _ (List.getElem_mem _)), List.take_add_one, hx]
    rfl
theorem hi_val (p : List UInt8) : (∀ c ∈ p, 128 ≤ c.toNat) → (∀ c, p[0]? = some c → c.toNat ≠ 128) → hi (val p) = p ∧ (p ≠ [] → 0 < val p) := by
  induction hn : p.length generalizing p with
  | zero =>
    intro _ _
    have : p = [] := List.length_eq_zero_iff.1 hn
    subst this
    exact ⟨hi_zero, fun h => absurd rfl h⟩
  | succ n ih =>
    intro h1 h2
    obtain ⟨q, c, rfl⟩ : ∃ q c, p = q ++ [c] := ⟨p.dropLast, p.getLast (by intro e; rw [e] at hn; cases hn), (List.dropLast_concat_getLast _).symm⟩
    have hq : q.length = n := by simpa using hn
    have hc : 128 ≤ c.toNat := h1 c (by simp)
    have hc2 : c.toNat < 256 := c.toNat_lt
    have hi1 := ih q hq (fun x hx => h1 x (by simp [hx])) (fun x hx => h2 x (by rw [List.getElem?_append_left (by exact (List.getElem?_eq_some_iff.1 hx).1)]; exact hx))
    have hpos : 0 < val (q ++ [c]) := by
      rw [val_snoc]
      by_cases hq0 : q = []
      · subst hq0
        have := h2 c (by simp)
        omega
      · have := hi1.2 hq0
        omega
    refine ⟨?_, fun _ => hpos⟩
    rw [hi_pos _ hpos, val_snoc]
    have e1 : (val q * 128 + c.toNat % 128) / 128 = val q := by omega
    have e2 : 128 + (val q * 128 + c.toNat % 128) % 128 = c.toNat := by omega
    rw [e1, e2, hi1.1]
    simp
theorem enc_val (p : List UInt8) (c : UInt8) (h1 : ∀ x ∈ p, 128 ≤ x.toNat) (h2 : ∀ x, p[0]? = some x → x.toNat ≠ 128) (hc : c.toNat < 128) : enc (val (p ++ [c])) = p ++ [c] := by
  have h := (hi_val p h1 h2).1
  unfold enc
  rw [val_snoc]
  have e1 : (val p * 128 + c.toNat % 128) / 128 = val p := by omega
  have e2 : (val p * 128 + c.toNat % 128) % 128 = c.toNat := by omega
  rw [e1, e2, h]
  simp
theorem wd_shape (l : List UInt8) : ∀ i, (wd l i).2 = 0 → ∃ p c t, l = p ++ c :: t ∧ (∀ x ∈ p, 128 ≤ x.toNat) ∧ c.toNat < 128 ∧ (wd l i).1 = i + p.length + 1 := by
  induction l with
  | nil => intro i h; simp [wd] at h
  | cons a r ih =>
    intro i h
    unfold wd at h ⊢
    split at h
    · rename_i h1
      rw [if_pos h1]
      exact ⟨[], a, r, rfl, by simp, h1, rfl⟩
    · rename_i h1
      rw [if_neg h1]
      split at h
      · cases h
      · rename_i h2
        rw [if_neg h2]
        obtain ⟨p, c, t, e, h3, h4, h5⟩ := ih (i + 1) h
        refine ⟨a :: p, c, t, by rw [e]; rfl, fun x hx => ?_, h4, by rw [h5, List.length_cons]; omega⟩
        rcases List.mem_cons.1 hx with rfl | hx
        · omega
        · exact h3 x hx
theorem look_canon (l : List UInt8) (most : Int) (h : (Vlq.look l most).2.2 = 0) : l.take (Vlq.look l most).2.1 = enc (Vlq.look l most).1 := by
  unfold Vlq.look at h ⊢
  split at h
  · rename_i h1; exact absurd h h1
  · rename_i h1
    rw [if_neg h1]
    split at h
    · cases h
    · rename_i h2
      rw [if_neg h2]
      simp only
      have h1' : (width l).2 = 0 := by simpa using h1
      cases l with
      | nil => simp [width] at h1'
      | cons a r =>
        simp only [width] at h1' ⊢
        split at h1'
        · cases h1'
        · rename_i h3
          rw [if_neg h3]
          obtain ⟨p, c, t, e, g1, g2, g3⟩ := wd_shape (a :: r) 0 h1'
          rw [g3, e]
          have e4 : (p ++ c :: t).take (0 + p.length + 1) = p ++ [c] := by
            rw [show p ++ c :: t = (p ++ [c]) ++ t by simp, show 0 + p.length + 1 = (p ++ [c]).length by simp, List.take_left]
          rw [e4, enc_val p c g1 (fun x hx => ?_) g2]
          intro e5
          have hp : p[0]? = (a :: r)[0]? := by
            rw [e, List.getElem?_append_left (List.getElem?_eq_some_iff.1 hx).1]
          rw [hp] at hx
          simp at hx
          subst hx
          exact h3 e5
def Canon {α : Type} (one : St → α × St) (B : α → List UInt8) : Prop := ∀ s, (one s).2.2 = 0 → s.2 = 0 ∧ s.1 = B (one s).1 ++ (one s).2.1
theorem numS_canon (most : Int) : Canon (numS most) encN := by
  rintro ⟨l, e⟩ h
  unfold numS numM at h ⊢
  simp only at h ⊢
  by_cases he : e = 0
  · subst he
    rw [if_neg (by simp)] at h ⊢
    simp only at h ⊢
    have h1 := look_canon l most h
    have h2 := (look_le l most).2.1
    have h3 : encN ((Vlq.look l most).1 : Int) = enc (Vlq.look l most).1 := by
      unfold encN
      have := held_of ((Vlq.look l most).1 : Int) (by omega) (by omega)
      congr 1
      omega
    exact ⟨trivial, by rw [h3, ← h1, List.take_append_drop]⟩
  · rw [if_pos he] at h
    exact absurd h he
theorem strS_canon (most : Int) : Canon (strS most) (fun l => textB (str l)) := by
  rintro ⟨l, e⟩ h
  unfold strS strM at h ⊢
  simp only at h ⊢
  by_cases he : e = 0
  · subst he
    rw [if_neg (by simp)] at h ⊢
    by_cases h1 : (Vlq.look l most).2.2 = 0
    · rw [if_neg (by simpa using h1)] at h ⊢
      split at h
      · cases h
      · rename_i h2
        rw [if_neg h2]
        simp only
        have g1 := look_canon l most h1
        have g2 := (look_le l most).1
        have g3 : ((l.drop (Vlq.look l most).2.1).take (Vlq.look l most).1).length = (Vlq.look l most).1 := by
          rw [List.length_take, List.length_drop]; omega
        refine ⟨trivial, ?_⟩
        unfold textB
        have e5 : (str ((l.drop (Vlq.look l most).2.1).take (Vlq.look l most).1)).data.toList = (l.drop (Vlq.look l most).2.1).take (Vlq.look l most).1 := by simp [str]
        rw [str_size, g3, e5, ← g1, List.append_assoc, ← List.drop_drop, List.take_append_drop, List.take_append_drop]
    · rw [if_pos h1] at h
      exact absurd h h1
  · rw [if_pos he] at h
    exact absurd h he
theorem listS_canon {α : Type} {one : St → α × St} {B : α → List UInt8} (h : Canon one B) (n : Nat) : Canon (listS one n) (flat B) := by
  induction n with
  | zero =>
    intro s hs
    exact ⟨hs, rfl⟩
  | succ n ih =>
    intro s hs
    simp only [listS] at hs ⊢
    obtain ⟨h1, h2⟩ := h _ hs
    obtain ⟨h3, h4⟩ := ih s h1
    refine ⟨h3, ?_⟩
    rw [flat_append, flat_one, List.append_assoc, ← h2]
    exact h4
theorem takeS_canon {α : Type} {one : St → α × St} {B : α → List UInt8} (h : Canon one B) (most : Int) (h0 : 0 ≤ most) : Canon (takeS most one) (listB B) := by
  intro s hs
  unfold takeS at hs ⊢
  obtain ⟨h1, h2⟩ := listS_canon h _ _ hs
  obtain ⟨h3, h4⟩ := numS_canon most s h1
  refine ⟨h3, ?_⟩
  have h5 := numS_le most h0 s
  unfold listB
  rw [listS_len, List.append_assoc, ← h2, show (((numS most s).1.toNat : Nat) : Int) = (numS most s).1 by omega]
  exact h4
end Go.Proofs.Ytdggnakjfcmnmaa.Wire
/-
  Both readers as they are told by what is left: their contracts over a state of bytes and an error. Condition: no more than 2^40 bytes.
-/
namespace Go.Proofs.Ytdggnakjfcmnmaa.Wire
open Go Go.RowKit Go.Lib
open Go.Proofs.Ytdggnakjfcmnmaa.Vlq (RdV RdM num_any str_any numR strR numM strM numM_of strM_of numR_le strR_le refRdNum_any refRdStr_any open_any close_any closed closedM closed_of refClose_any)
set_option linter.unusedVariables false
def RdS (w : World) (g : Nat) (s : St) : Prop := ∃ L j, RdV w g L j s.2 ∧ L.drop j = s.1 ∧ j ≤ L.length
theorem RdS.lt {w : World} {g : Nat} {s : St} (h : RdS w g s) : g < w.heap.size := by
  obtain ⟨L, j, h1, _⟩ := h
  exact h1.lt
theorem RdS.grown {w w' : World} {g : Nat} {row : Option Nat} {s : St} (h : RdS w g s) (hb : w.grownBy w' row) (hg : ∀ k, row = some k → g < k) : RdS w' g s := by
  obtain ⟨L, j, h1, h2⟩ := h
  exact ⟨L, j, h1.grown hb hg, h2⟩
theorem RdS.below {w w' : World} {g B : Nat} {s : St} (h : RdS w g s) (hb : Below B w w') (hg : g < B) : RdS w' g s := by
  obtain ⟨L, j, h1, h2⟩ := h
  exact ⟨L, j, h1.below hb hg, h2⟩
theorem RdS.alloc {w : World} {g : Nat} {s : St} (h : RdS w g s) (o : Obj) : RdS (w.alloc o) g s := h.below ((Below.refl _ _).alloc (Nat.le_refl _) o) h.lt
theorem num_S (g : Nat) (s : St) (most : Int) (w : World) (h : RdS w g s) :
    Calls Try.prog 54 #[.pointer (some ⟨g, 0, none⟩), .int .i64 most] w fun e w' => e = .returned (.int .i64 (numS most s).1) ∧ RdS w' g (numS most s).2 ∧ w.grownBy w' (some g) := by
  obtain ⟨L, j, h1, h2, h3⟩ := h
  obtain ⟨l, er⟩ := s
  simp only at h1 h2
  subst h2
  refine (num_any g L j er most w h1).mono ?_
  rintro e w' ⟨rfl, h4, h5⟩
  have e := numM_of L j er most
  refine ⟨by unfold numS; rw [e], ⟨L, _, ?_, ?_, numR_le L j er most h3⟩, h5⟩
  · unfold numS
    rw [e]
    exact h4
  · unfold numS
    rw [e]
theorem str_S (g : Nat) (s : St) (most : Int) (w : World) (h : RdS w g s) :
    Calls Try.prog 66 #[.pointer (some ⟨g, 0, none⟩), .int .i64 most] w fun e w' => e = .returned (.string (str (strS most s).1)) ∧ RdS w' g (strS most s).2 ∧ w.grownBy w' (some g) := by
  obtain ⟨L, j, h1, h2, h3⟩ := h
  obtain ⟨l, er⟩ := s
  simp only at h1 h2
  subst h2
  refine (str_any g L j er most w h1).mono ?_
  rintro e w' ⟨rfl, h4, h5⟩
  have e := strM_of L j er most h3
  refine ⟨by unfold strS; rw [e], ⟨L, _, ?_, ?_, strR_le L j er most h3⟩, h5⟩
  · unfold strS
    rw [e]
    exact h4
  · unfold strS
    rw [e]
theorem open_S (A : Option Addr) (n c : Nat) (l : List UInt8) (w : World) (hn : n ≤ 1099511627776) (h : Reads w w.heap.size 1 A n (bcs l)) :
    Calls Try.prog 34 #[.slice A n c] w fun e w' => ∃ g, e = .returned (.pointer (some ⟨g, 0, none⟩)) ∧ w.heap.size ≤ g ∧ RdS w' g (l, 0) ∧ Below w.heap.size w w' := by
  refine (open_any A n c l w hn h).mono ?_
  rintro e w' ⟨g, rfl, h1, h2, h3⟩
  exact ⟨g, rfl, h1, ⟨l, 0, h2, rfl, Nat.zero_le _⟩, h3⟩
theorem close_S (g : Nat) (s : St) (w : World) (h : RdS w g s) : Calls Try.prog 36 #[.pointer (some ⟨g, 0, none⟩)] w fun e w' => e = .returned (.int .i64 (closedM s.1 s.2)) ∧ ∃ n, w' = w.drewN n := by
  obtain ⟨L, j, h1, h2, h3⟩ := h
  rw [← h2, closed_of L j s.2 h3]
  exact close_any g L j s.2 w h1
def RdD (w : World) (g : Nat) (s : St) : Prop := RdM w g s.1 s.2
theorem RdD.lt {w : World} {g : Nat} {s : St} (h : RdD w g s) : g < w.heap.size := h.1.lt
theorem RdD.grown {w w' : World} {g : Nat} {row : Option Nat} {s : St} (h : RdD w g s) (hb : w.grownBy w' row) (hg : some g ≠ row) : RdD w' g s := Vlq.RdM.grown h hb hg
theorem RdD.alloc {w : World} {g : Nat} {s : St} (h : RdD w g s) (o : Obj) : RdD (w.alloc o) g s := Vlq.RdM.below h ((Below.refl _ _).alloc (Nat.le_refl _) o) h.1.lt
theorem num_D (g : Nat) (s : St) (most : Int) (w : World) (h : RdD w g s) :
    Calls Try.prog 37 #[.pointer (some ⟨g, 0, none⟩), .int .i64 most] w fun e w' => e = .returned (.int .i64 (numS most s).1) ∧ RdD w' g (numS most s).2 ∧ w.grownBy w' (some g) :=
  refRdNum_any g s.1 s.2 most w h
theorem str_D (g : Nat) (s : St) (most : Int) (w : World) (h : RdD w g s) :
    Calls Try.prog 38 #[.pointer (some ⟨g, 0, none⟩), .int .i64 most] w fun e w' => e = .returned (.string (str (strS most s).1)) ∧ RdD w' g (strS most s).2 ∧ w.grownBy w' (some g) :=
  refRdStr_any g s.1 s.2 most w h
theorem close_D (g : Nat) (s : St) (w : World) (h : RdD w g s) : Calls Try.prog 39 #[.pointer (some ⟨g, 0, none⟩)] w fun e w' => e = .returned (.int .i64 (closedM s.1 s.2)) ∧ w = w' := refClose_any g s.1 s.2 w h
end Go.Proofs.Ytdggnakjfcmnmaa.Wire
