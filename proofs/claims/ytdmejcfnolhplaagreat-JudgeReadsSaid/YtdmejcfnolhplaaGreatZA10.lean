/-
  Some texts of this claim, one behind the other: VlqReadsM, WireNum, WireRd. What each proves, and its condition, stands at its head.
-/
import Derived.Test.YtdmejcfnolhplaaGreatZA8
import Derived.Test.YtdmejcfnolhplaaGreatZA6
import Derived.Test.YtdmejcfnolhplaaGreatChecked
import Derived.Deep.DeepMust
import Derived.Deep.RegionHeld3
import Derived.Lib.Strings
/-
  How the program's reader and the document's go side by side, as plain mathematics and as memory. No condition.
-/
namespace Go.Proofs.YtdmejcfnolhplaaGreat.Vlq
open Go.RowKit
set_option linter.unusedVariables false
def RdsIn (w : World) (B : Nat) (A : Option Addr) (n : Nat) (ps : List (Int × Int)) : Prop :=
  ps.length = n ∧ (0 < n → ∃ ad, A = some ad ∧ ad.block < B ∧ ∀ i p, ps[i]? = some p → w.cell? (ad.add (i * 2)) = some (.int .i64 p.1) ∧ w.cell? (ad.add (i * 2 + 1)) = some (.int .i64 p.2))
theorem add_field (ad : Addr) (k : Nat) : ad.add (k + 1) = ⟨(ad.add k).block, (ad.add k).off + 1, none⟩ := by
  unfold Addr.add
  by_cases h : k = 0 <;> simp [h, Nat.add_assoc]
theorem RdsIn.at_ {w : World} {B n k : Nat} {A : Option Addr} {ps : List (Int × Int)} (h : RdsIn w B A n ps) (hk : k < n) :
    ∃ ad x y, A = some ad ∧ ad.block < B ∧ w.cell? (ad.add (k * 2)) = some (.int .i64 x) ∧ w.cell? ⟨(ad.add (k * 2)).block, (ad.add (k * 2)).off + 1, none⟩ = some (.int .i64 y) := by
  obtain ⟨hl, h⟩ := h
  obtain ⟨ad, hA, hb, hc⟩ := h (by omega)
  have hp : ps[k]? = some ps[k] := by simp
  exact ⟨ad, ps[k].1, ps[k].2, hA, hb, (hc k _ hp).1, by rw [← add_field]; exact (hc k _ hp).2⟩
def Both (w : World) (g m : Nat) (L : List UInt8) (j : Nat) (e : Int) : Prop := RdV w g L j e ∧ RdM w m (L.drop j) e ∧ j ≤ L.length ∧ g < m
theorem numM_of (L : List UInt8) (j : Nat) (e most : Int) : numM (L.drop j) e most = ((numR L j e most).1, L.drop (numR L j e most).2.1, (numR L j e most).2.2) := by
  unfold numM numR
  split
  · rfl
  · simp [List.drop_drop]
theorem numR_le (L : List UInt8) (j : Nat) (e most : Int) (h : j ≤ L.length) : (numR L j e most).2.1 ≤ L.length := by
  unfold numR
  split
  · exact h
  · have := (look_le (L.drop j) most).1
    rw [List.length_drop] at this
    simp only; omega
theorem strM_of (L : List UInt8) (j : Nat) (e most : Int) (h : j ≤ L.length) : strM (L.drop j) e most = ((strR L j e most).1, L.drop (strR L j e most).2.1, (strR L j e most).2.2) := by
  unfold strM strR
  split
  · rfl
  · split
    · rfl
    · rw [List.length_drop]
      split
      · rfl
      · simp [List.drop_drop]
theorem strR_le (L : List UInt8) (j : Nat) (e most : Int) (h : j ≤ L.length) : (strR L j e most).2.1 ≤ L.length := by
  unfold strR
  split
  · exact h
  · split
    · exact h
    · split
      · exact h
      · have := (look_le (L.drop j) most).1
        rw [List.length_drop] at this
        simp only; omega
theorem closed_of (L : List UInt8) (j : Nat) (e : Int) (h : j ≤ L.length) : closedM (L.drop j) e = closed L j e := by
  unfold closedM closed
  split
  · rfl
  · by_cases hj : j < L.length
    · rw [if_neg (by simp; omega), if_pos hj]
    · rw [if_pos (by simp; omega), if_neg hj]
theorem Both.str {w w1 w2 : World} {g m : Nat} {L : List UInt8} {j : Nat} {e most : Int} (h : Both w g m L j e)
    (h1 : RdV w1 g L (strR L j e most).2.1 (strR L j e most).2.2) (hg1 : w.grownBy w1 (some g))
    (h2 : RdM w2 m (strM (L.drop j) e most).2.1 (strM (L.drop j) e most).2.2) (hg2 : w1.grownBy w2 (some m)) : Both w2 g m L (strR L j e most).2.1 (strR L j e most).2.2 := by
  rw [strM_of L j e most h.2.2.1] at h2
  exact ⟨h1.grown hg2 (fun k hk => by injection hk with hk; have := h.2.2.2; omega), h2, strR_le L j e most h.2.2.1, h.2.2.2⟩
theorem Both.bad {w w1 w2 : World} {g m : Nat} {L : List UInt8} {j : Nat} {e b : Int} (h : Both w g m L j e)
    (h1 : RdV w1 g L j (bad e b)) (hg1 : w.grownBy w1 (some g))
    (h2 : RdM w2 m (L.drop j) (bad e b)) (hg2 : w1.grownBy w2 (some m)) : Both w2 g m L j (bad e b) :=
  ⟨h1.grown hg2 (fun k hk => by injection hk with hk; have := h.2.2.2; omega), h2, h.2.2.1, h.2.2.2⟩
end Go.Proofs.YtdmejcfnolhplaaGreat.Vlq
/-
  Plain mathematics of numbers, texts and lists as bytes: what is written, what is read, what was written is read, and what is read was written so. No program.
-/
namespace Go.Proofs.YtdmejcfnolhplaaGreat.Wire
open Go.RowKit Go.Lib
open Go.Proofs.YtdmejcfnolhplaaGreat.Vlq (enc held held_le held_of enc_pos hi hi_zero hi_pos val look_enc look_most look_le numM strM closedM wd width val_snoc)
set_option linter.unusedVariables false
def encN (n : Int) : List UInt8 := enc (held n)
def flat {α : Type} (B : α → List UInt8) (l : List α) : List UInt8 := l.flatMap B
def listB {α : Type} (B : α → List UInt8) (l : List α) : List UInt8 := encN l.length ++ flat B l
def textB (nm : ByteArray) : List UInt8 := enc nm.size ++ nm.data.toList
theorem flat_nil {α : Type} (B : α → List UInt8) : flat B [] = [] := rfl
theorem flat_len {α : Type} (B : α → List UInt8) (l : List α) (k : Nat) (h : ∀ x ∈ l, (B x).length ≤ k) : (flat B l).length ≤ l.length * k := by
  induction l with
  | nil => simp [flat]
  | cons x t ih =>
    have h1 := h x (by simp)
    have h2 := ih fun y hy => h y (by simp [hy])
    simp only [flat, List.flatMap_cons, List.length_append, List.length_cons] at h2 ⊢
    rw [Nat.add_mul]
    omega
theorem encN_five (n : Int) (h : n ≤ 1000000000) : (encN n).length ≤ 5 := by
  have hh : held n ≤ 1000000000 := by unfold held; omega
  have := Vlq.hi_length (held n / 128) 4 (by omega)
  unfold encN enc
  simp; omega
theorem encN_one (n : Int) (h : n ≤ 100) : (encN n).length ≤ 1 := by
  have hh : held n ≤ 100 := by unfold held; omega
  have := Vlq.hi_length (held n / 128) 0 (by omega)
  unfold encN enc
  rw [List.length_append, List.length_singleton]
  omega
theorem textB_len (nm : ByteArray) (h : nm.size ≤ 24) : (textB nm).length ≤ 25 := by
  have h1 := encN_one (nm.size : Int) (by omega)
  have h2 : encN (nm.size : Int) = enc nm.size := by
    unfold encN
    have := held_of (nm.size : Int) (by omega) (by omega)
    congr 1
    omega
  rw [h2] at h1
  unfold textB
  rw [List.length_append, ← Lib.size_eq]
  omega
theorem listB_len {α : Type} (B : α → List UInt8) (l : List α) (k m : Nat) (h : ∀ x ∈ l, (B x).length ≤ k) (hl : l.length ≤ m) (hm : m ≤ 100) : (listB B l).length ≤ 1 + m * k := by
  have h1 := flat_len B l k h
  have h2 := encN_one (l.length : Int) (by omega)
  have h3 : l.length * k ≤ m * k := Nat.mul_le_mul_right k hl
  unfold listB
  rw [List.length_append]
  omega
abbrev St := List UInt8 × Int
def numS (most : Int) (s : St) : Int × St := numM s.1 s.2 most
def strS (most : Int) (s : St) : List UInt8 × St := strM s.1 s.2 most
def listS {α : Type} (one : St → α × St) : Nat → St → List α × St
  | 0, s => ([], s)
  | n + 1, s => ((listS one n s).1 ++ [(one (listS one n s).2).1], (one (listS one n s).2).2)
def takeS {α : Type} (most : Int) (one : St → α × St) (s : St) : List α × St := listS one (numS most s).1.toNat (numS most s).2
theorem listS_len {α : Type} (one : St → α × St) (n : Nat) (s : St) : (listS one n s).1.length = n := by
  induction n with
  | zero => rfl
  | succ n ih => simp [listS, ih]
theorem numS_le (most : Int) (h0 : 0 ≤ most) (s : St) : 0 ≤ (numS most s).1 ∧ (numS most s).1 ≤ most := by
  unfold numS numM
  split
  · exact ⟨Int.le_refl _, h0⟩
  · refine ⟨by simp only; omega, ?_⟩
    by_cases he : (Vlq.look s.1 most).2.2 = 0
    · exact look_most _ _ he
    · have := ((look_le s.1 most).2.2.2 he).2
      simp only [this]
      exact h0
theorem takeS_len {α : Type} (most : Int) (h0 : 0 ≤ most) (one : St → α × St) (s : St) : (takeS most one s).1.length ≤ most.toNat := by
  unfold takeS
  rw [listS_len]
  have := numS_le most h0 s
  omega
theorem listS_all {α : Type} {one : St → α × St} {P : α → Prop} (h : ∀ s, P (one s).1) (n : Nat) (s : St) : ∀ x ∈ (listS one n s).1, P x := by
  induction n with
  | zero => intro x hx; cases hx
  | succ n ih =>
    intro x hx
    simp only [listS, List.mem_append, List.mem_singleton] at hx
    rcases hx with hx | rfl
    · exact ih x hx
    · exact h _
theorem strS_len (most : Int) (h0 : 0 ≤ most) (s : St) : ((strS most s).1.length : Int) ≤ most := by
  unfold strS strM
  split
  · simpa using h0
  · split
    · simpa using h0
    · split
      · simpa using h0
      · rename_i h1 h2 h3
        have := look_most s.1 most (by simpa using h2)
        have h4 : ((s.1.drop (Vlq.look s.1 most).2.1).take (Vlq.look s.1 most).1).length ≤ (Vlq.look s.1 most).1 := List.length_take_le _ _
        simp only
        omega
def Back {α : Type} (one : St → α × St) (B : α → List UInt8) (P : α → Prop) : Prop := ∀ x t, P x → one (B x ++ t, 0) = (x, (t, 0))
theorem numS_back (most n : Int) (t : List UInt8) (h0 : 0 ≤ n) (h1 : n ≤ most) (h2 : n ≤ 1099511627776) : numS most (encN n ++ t, 0) = (n, (t, 0)) := by
  have hh := held_of n h0 h2
  unfold numS numM encN
  rw [if_neg (by simp), look_enc (held n) (held_le n) t most (by omega)]
  simp [hh]
theorem strS_back (most : Int) (nm : ByteArray) (t : List UInt8) (h1 : (nm.size : Int) ≤ most) (h2 : nm.size ≤ 1000000) : strS most (textB nm ++ t, 0) = (nm.data.toList, (t, 0)) := by
  have hl : nm.data.toList.length = nm.size := (Lib.size_eq nm).symm
  unfold strS strM textB
  rw [List.append_assoc, if_neg (by simp), look_enc nm.size (by omega) _ most h1]
  simp only
  rw [if_neg (by simp), if_neg (by simp [hl])]
  rw [List.drop_left, ← hl, List.take_left, ← List.drop_drop, List.drop_left, List.drop_left]
theorem listS_back {α : Type} {one : St → α × St} {B : α → List UInt8} {P : α → Prop} (h : Back one B P) (l : List α) (hl : ∀ x ∈ l, P x) (t : List UInt8) : ∀ n, n ≤ l.length → listS one n (flat B l ++ t, 0) = (l.take n, (flat B (l.drop n) ++ t, 0)) := by
  intro n
  induction n with
  | zero => intro _; simp [listS]
  | succ n ih =>
    intro hn
    have hx : l[n]? = some l[n] := by simp
    have e := ih (by omega)
    unfold listS
    rw [e]
    simp only
    have e2 : flat B (l.drop n) ++ t = B l[n] ++ (flat B (l.drop (n + 1)) ++ t) := by
      rw [List.drop_eq_getElem_cons (show n < l.length by omega)]
      simp only [flat, List.flatMap_cons, List.append_assoc]
    rw [e2, h _ _ (hl _ (List.getElem_mem _)), List.take_add_one, hx]
    rfl
theorem takeS_back {α : Type} {one : St → α × St} {B : α → List UInt8} {P : α → Prop} (h : Back one B P) (most : Int) (l : List α) (hl : ∀ x ∈ l, P x) (hm : (l.length : Int) ≤ most) (hm2 : most ≤ 100) (t : List UInt8) : takeS most one (listB B l ++ t, 0) = (l, (t, 0)) := by
  unfold takeS listB
  rw [List.append_assoc, numS_back most l.length _ (by omega) hm (by omega)]
  simp only [Int.toNat_natCast]
  rw [listS_back h l hl t l.length (Nat.le_refl _), List.take_length, List.drop_length]
  rfl
end Go.Proofs.YtdmejcfnolhplaaGreat.Wire
/-
  Both readers as they are told by what is left: their contracts over a state of bytes and an error. Condition: no more than 2^40 bytes.
-/
namespace Go.Proofs.YtdmejcfnolhplaaGreat.Wire
open Go Go.RowKit Go.Lib
open Go.Proofs.YtdmejcfnolhplaaGreat.Vlq (RdV RdM num_any str_any numR strR numM strM numM_of strM_of numR_le strR_le refRdNum_any refRdStr_any open_any close_any closed closedM closed_of refClose_any)
set_option linter.unusedVariables false
def RdS (w : World) (g : Nat) (s : St) : Prop := ∃ L j, RdV w g L j s.2 ∧ L.drop j = s.1 ∧ j ≤ L.length
theorem RdS.lt {w : World} {g : Nat} {s : St} (h : RdS w g s) : g < w.heap.size := by
  obtain ⟨L, j, h1, _⟩ := h
  exact h1.lt
theorem RdS.grown {w w' : World} {g : Nat} {row : Option Nat} {s : St} (h : RdS w g s) (hb : w.grownBy w' row) (hg : ∀ k, row = some k → g < k) : RdS w' g s := by
  obtain ⟨L, j, h1, h2⟩ := h
  exact ⟨L, j, h1.grown hb hg, h2⟩
theorem RdS.below {w w' : World} {g B : Nat} {s : St} (h : RdS w g s) (hb : Below B w w') (hg : g < B) : RdS w' g s := by
  obtain ⟨L, j, h1, h2⟩ := h
  exact ⟨L, j, h1.below hb hg, h2⟩
theorem RdS.alloc {w : World} {g : Nat} {s : St} (h : RdS w g s) (o : Obj) : RdS (w.alloc o) g s := h.below ((Below.refl _ _).alloc (Nat.le_refl _) o) h.lt
theorem num_S (g : Nat) (s : St) (most : Int) (w : World) (h : RdS w g s) :
    Calls Tryz.prog 130 #[.pointer (some ⟨g, 0, none⟩), .int .i64 most] w fun e w' => e = .returned (.int .i64 (numS most s).1) ∧ RdS w' g (numS most s).2 ∧ w.grownBy w' (some g) := by
  obtain ⟨L, j, h1, h2, h3⟩ := h
  obtain ⟨l, er⟩ := s
  simp only at h1 h2
  subst h2
  refine (num_any g L j er most w h1).mono ?_
  rintro e w' ⟨rfl, h4, h5⟩
  have e := numM_of L j er most
  refine ⟨by unfold numS; rw [e], ⟨L, _, ?_, ?_, numR_le L j er most h3⟩, h5⟩
  · unfold numS
    rw [e]
    exact h4
  · unfold numS
    rw [e]
theorem str_S (g : Nat) (s : St) (most : Int) (w : World) (h : RdS w g s) :
    Calls Tryz.prog 132 #[.pointer (some ⟨g, 0, none⟩), .int .i64 most] w fun e w' => e = .returned (.string (str (strS most s).1)) ∧ RdS w' g (strS most s).2 ∧ w.grownBy w' (some g) := by
  obtain ⟨L, j, h1, h2, h3⟩ := h
  obtain ⟨l, er⟩ := s
  simp only at h1 h2
  subst h2
  refine (str_any g L j er most w h1).mono ?_
  rintro e w' ⟨rfl, h4, h5⟩
  have e := strM_of L j er most h3
  refine ⟨by unfold strS; rw [e], ⟨L, _, ?_, ?_, strR_le L j er most h3⟩, h5⟩
  · unfold strS
    rw [e]
    exact h4
  · unfold strS
    rw [e]
theorem open_S (A : Option Addr) (n c : Nat) (l : List UInt8) (w : World) (hn : n ≤ 1099511627776) (h : Reads w w.heap.size 1 A n (bcs l)) :
    Calls Tryz.prog 95 #[.slice A n c] w fun e w' => ∃ g, e = .returned (.pointer (some ⟨g, 0, none⟩)) ∧ w.heap.size ≤ g ∧ RdS w' g (l, 0) ∧ Below w.heap.size w w' := by
  refine (open_any A n c l w hn h).mono ?_
  rintro e w' ⟨g, rfl, h1, h2, h3⟩
  exact ⟨g, rfl, h1, ⟨l, 0, h2, rfl, Nat.zero_le _⟩, h3⟩
theorem close_S (g : Nat) (s : St) (w : World) (h : RdS w g s) : Calls Tryz.prog 97 #[.pointer (some ⟨g, 0, none⟩)] w fun e w' => e = .returned (.int .i64 (closedM s.1 s.2)) ∧ ∃ n, w' = w.drewN n := by
  obtain ⟨L, j, h1, h2, h3⟩ := h
  rw [← h2, closed_of L j s.2 h3]
  exact close_any g L j s.2 w h1
def RdD (w : World) (g : Nat) (s : St) : Prop := RdM w g s.1 s.2
theorem RdD.lt {w : World} {g : Nat} {s : St} (h : RdD w g s) : g < w.heap.size := h.1.lt
theorem RdD.grown {w w' : World} {g : Nat} {row : Option Nat} {s : St} (h : RdD w g s) (hb : w.grownBy w' row) (hg : some g ≠ row) : RdD w' g s := Vlq.RdM.grown h hb hg
theorem RdD.alloc {w : World} {g : Nat} {s : St} (h : RdD w g s) (o : Obj) : RdD (w.alloc o) g s := Vlq.RdM.below h ((Below.refl _ _).alloc (Nat.le_refl _) o) h.1.lt
theorem num_D (g : Nat) (s : St) (most : Int) (w : World) (h : RdD w g s) :
    Calls Tryz.prog 100 #[.pointer (some ⟨g, 0, none⟩), .int .i64 most] w fun e w' => e = .returned (.int .i64 (numS most s).1) ∧ RdD w' g (numS most s).2 ∧ w.grownBy w' (some g) :=
  refRdNum_any g s.1 s.2 most w h
theorem str_D (g : Nat) (s : St) (most : Int) (w : World) (h : RdD w g s) :
    Calls Tryz.prog 99 #[.pointer (some ⟨g, 0, none⟩), .int .i64 most] w fun e w' => e = .returned (.string (str (strS most s).1)) ∧ RdD w' g (strS most s).2 ∧ w.grownBy w' (some g) :=
  refRdStr_any g s.1 s.2 most w h
theorem close_D (g : Nat) (s : St) (w : World) (h : RdD w g s) : Calls Tryz.prog 102 #[.pointer (some ⟨g, 0, none⟩)] w fun e w' => e = .returned (.int .i64 (closedM s.1 s.2)) ∧ w = w' := refClose_any g s.1 s.2 w h
end Go.Proofs.YtdmejcfnolhplaaGreat.Wire
