/-
  Some texts of this claim, one behind the other: PickCells, PickRef. What each proves, and its condition, stands at its head.
-/
import Derived.Test.YtckioihkknhfpaaGreatDoorX8
import Derived.Test.YtckioihkknhfpaaGreatDoorX1
import Derived.Test.YtckioihkknhfpaaGreatDoorX2
import Derived.Test.YtckioihkknhfpaaGreatDoorChecked
import Derived.Laws.Cover1
/-
  Slices of picks in memory: what came in with a call, and new ones of the call's own. No condition.
-/
namespace Go.Proofs.YtckioihkknhfpaaGreatDoor.Pick
open Go Go.RowKit Go.Lib
set_option linter.unusedVariables false
theorem alloc_b (w : World) (o : Obj) : Below w.heap.size w (w.alloc o) := (Below.refl _ _).alloc (Nat.le_refl _) o
def pks : List Pk → List Value
  | [] => []
  | s :: t => .string s.1 :: .int .i64 s.2 :: pks t
theorem pks_length (l : List Pk) : (pks l).length = l.length * 2 := by
  induction l with
  | nil => rfl
  | cons s t ih => simp [pks, ih]; omega
theorem pks_get (l : List Pk) : ∀ (i : Nat) (s : Pk), l[i]? = some s → (pks l)[i * 2]? = some (.string s.1) ∧ (pks l)[i * 2 + 1]? = some (.int .i64 s.2) := by
  induction l with
  | nil => intro i s h; simp at h
  | cons x t ih =>
    intro i s h
    cases i with
    | zero => simp at h; subst h; exact ⟨rfl, rfl⟩
    | succ i =>
      rw [List.getElem?_cons_succ] at h
      have := ih i s h
      rw [show (i + 1) * 2 = i * 2 + 1 + 1 by omega, show i * 2 + 1 + 1 + 1 = (i * 2 + 1) + 1 + 1 by omega]
      exact this
theorem pks_drop (l : List Pk) : ∀ k : Nat, (pks l).drop (k * 2) = pks (l.drop k) := by
  induction l with
  | nil => intro k; simp [pks]
  | cons x t ih =>
    intro k
    cases k with
    | zero => rfl
    | succ k =>
      rw [show (k + 1) * 2 = k * 2 + 1 + 1 by omega]
      simp only [pks, List.drop_succ_cons, ih]
theorem pks_take (l : List Pk) : ∀ k : Nat, (pks l).take (k * 2) = pks (l.take k) := by
  induction l with
  | nil => intro k; simp [pks]
  | cons x t ih =>
    intro k
    cases k with
    | zero => simp [pks]
    | succ k =>
      rw [show (k + 1) * 2 = k * 2 + 1 + 1 by omega]
      simp only [pks, List.take_succ_cons, ih]
theorem add_field (ad : Addr) (k : Nat) : ad.add (k + 1) = ⟨(ad.add k).block, (ad.add k).off + 1, none⟩ := by
  unfold Addr.add
  by_cases h : k = 0 <;> simp [h, Nat.add_assoc]
def PkIn (w : World) (B : Nat) (A : Option Addr) (n : Nat) (l : List Pk) : Prop := Reads w B 2 A n (pks l)
section
variable {w w' : World} {B B' n k : Nat} {A : Option Addr} {l : List Pk}
theorem PkIn.len (h : PkIn w B A n l) : l.length = n := by
  have := h.1
  rw [pks_length] at this
  omega
theorem PkIn.at_ (h : PkIn w B A n l) (hk : k < n) :
    ∃ ad s, A = some ad ∧ ad.block < B ∧ l[k]? = some s ∧ w.cell? (ad.add (k * 2)) = some (.string s.1) ∧ w.cell? ⟨(ad.add (k * 2)).block, (ad.add (k * 2)).off + 1, none⟩ = some (.int .i64 s.2) := by
  have hl := h.len
  obtain ⟨ad, hA, hb, hc⟩ := h.2 (by omega)
  obtain ⟨g1, g2⟩ := pks_get l k (l[k]'(by omega)) (by simp)
  refine ⟨ad, l[k]'(by omega), hA, hb, by simp, hc _ _ g1, ?_⟩
  rw [← add_field]
  exact hc _ _ g2
theorem PkIn.below (h : PkIn w B A n l) (hb : Below B w w') : PkIn w' B A n l := Reads.below h hb
theorem PkIn.more (h : PkIn w B A n l) (hb : B ≤ B') : PkIn w B' A n l := Reads.more h hb
theorem PkIn.nil (w : World) (B : Nat) (A : Option Addr) : PkIn w B A 0 [] := ⟨rfl, fun h => absurd h (by omega)⟩
theorem PkIn.cut (h : PkIn w B A n l) {c : Nat} (hk : k ≤ n) (hc : n ≤ c) : PkIn w B (if c = k then A else A.map (·.add (k * 2))) (n - k) (l.drop k) := by
  have := Reads.cut h hk hc
  rw [pks_drop] at this
  exact this
theorem PkIn.take (h : PkIn w B A n l) (hk : k ≤ n) : PkIn w B A k (l.take k) := by
  have hl := h.len
  refine ⟨by rw [pks_length, List.length_take]; omega, fun hn => ?_⟩
  obtain ⟨ad, hA, hb, hc⟩ := h.2 (by omega)
  refine ⟨ad, hA, hb, fun j u hu => ?_⟩
  rw [← pks_take, List.getElem?_take] at hu
  split at hu
  · exact hc j u hu
  · cases hu
end
def PkOn (w : World) (A : Option Addr) (n : Nat) (l : List Pk) : Prop := PkIn w w.heap.size A n l
theorem PkOn.on {w w' : World} {A : Option Addr} {n : Nat} {l : List Pk} (h : PkOn w A n l) (hb : Below w.heap.size w w') : PkOn w' A n l := (PkIn.below h hb).more hb.size
theorem PkOn.len {w : World} {A : Option Addr} {n : Nat} {l : List Pk} (h : PkOn w A n l) : l.length = n := PkIn.len h
theorem pkOn_of {w : World} {A : Option Addr} {n : Nat} {l : List Pk} (h : RowOf (liePair lieStr (lieInt .i64)) w w.heap.size A n l) : PkOn w A n l ∧ ∀ q ∈ l, q.1.size ≤ maxLen := by
  have key : ∀ i (q : Pk), l[i]? = some q → ∃ ad, A = some ad ∧ ad.block < w.heap.size ∧ w.cell? (ad.add (i * 2)) = some (.string q.1) ∧ w.cell? (ad.add (i * 2 + 1)) = some (.int .i64 q.2) ∧ q.1.size ≤ maxLen := by
    intro i q hq
    have hi : i < l.length := (List.getElem?_eq_some_iff.1 hq).1
    obtain ⟨ad, hA, hB, hc⟩ := h.2 (by have := h.1; omega)
    obtain ⟨cs, h1, c1, c2, e, ⟨e1, hs⟩, ⟨e2, _⟩⟩ := hc i q hq
    subst e e1 e2
    have x0 := h1 0 (by simp)
    have x1 := h1 1 (by simp)
    rw [add_of_add] at x0 x1
    exact ⟨ad, hA, hB, by simpa [liePair, lieInt, lieStr] using x0, by simpa [liePair, lieInt, lieStr] using x1, hs⟩
  refine ⟨⟨by rw [pks_length, h.1], fun hn => ?_⟩, fun q hq => ?_⟩
  · obtain ⟨ad, hA, hB, _⟩ := h.2 hn
    refine ⟨ad, hA, hB, fun j u hu => ?_⟩
    have hj : j < l.length * 2 := by
      have := (List.getElem?_eq_some_iff.1 hu).1
      rwa [pks_length] at this
    have hi : l[j / 2]? = some (l[j / 2]'(by omega)) := by simp
    obtain ⟨ad', hA', _, c1, c2, _⟩ := key _ _ hi
    rw [hA] at hA'
    injection hA' with hA'
    subst hA'
    obtain ⟨g1, g2⟩ := pks_get l _ _ hi
    rcases Nat.mod_two_eq_zero_or_one j with h0 | h0
    · have ej : j = j / 2 * 2 := by omega
      rw [ej, g1] at hu
      injection hu with hu
      subst hu
      rw [← ej] at c1
      exact c1
    · have ej : j = j / 2 * 2 + 1 := by omega
      rw [ej, g2] at hu
      injection hu with hu
      subst hu
      rw [← ej] at c2
      exact c2
  · obtain ⟨i, hi, rfl⟩ := List.getElem_of_mem hq
    obtain ⟨_, _, _, _, _, h5⟩ := key i l[i] (by simp)
    exact h5
def NewP (w : World) (B : Nat) (A : Option Addr) (n c : Nat) (l : List Pk) : Prop :=
  n = l.length ∧ n ≤ c ∧ w.ownsRow B 60 2 (.slice A n c) n (pks l) ∧ PkOn w A n l
theorem NewP.nil_ (w : World) (B : Nat) : NewP w B none 0 0 [] := ⟨rfl, Nat.le_refl _, World.ownsRow_nil w B _ 2, PkIn.nil _ _ _⟩
theorem NewP.below {w w' : World} {B : Nat} {A : Option Addr} {n c : Nat} {l : List Pk} (h : NewP w B A n c l) (hb : Below w.heap.size w w') : NewP w' B A n c l :=
  ⟨h.1, h.2.1, own_below h.2.2.1 hb, h.2.2.2.on hb⟩
theorem NewP.less {w : World} {B B' : Nat} {A : Option Addr} {n c : Nat} {l : List Pk} (h : NewP w B A n c l) (hB : B' ≤ B) : NewP w B' A n c l :=
  ⟨h.1, h.2.1, own_less h.2.2.1 hB, h.2.2.2⟩
def MakesP (w : World) (L : List Pk) (e : Ending) (w' : World) : Prop := ∃ A n c, e = .returned (.slice A n c) ∧ NewP w' 0 A n c L ∧ Below w.heap.size w w'
theorem MakesP.le {w w' : World} {A : Option Addr} {n c B : Nat} {L : List Pk} (h : NewP w B A n c L) : n ≤ c ∧ L.length = n := ⟨h.2.1, h.1.symm⟩
end Go.Proofs.YtckioihkknhfpaaGreatDoor.Pick
/-
  Contracts of the document's Get, Drop and Put. Condition: no more than 1,000,000 picks.
-/
namespace Go.Proofs.YtckioihkknhfpaaGreatDoor.Pick
open Go Go.RowKit Go.Lib Go.Proofs.YtckioihkknhfpaaGreatDoor.Need
set_option linter.unusedVariables false
set_option maxHeartbeats 2000000 in
theorem refGetP_any (l : List Pk) (nm : ByteArray) (A : Option Addr) (n c : Nat) (w : World) (h : PkOn w A n l) (hn : n ≤ 1000000) :
    Calls Tryz.prog 53 #[.slice A n c, .string nm] w fun e w' => e = .returned (.tuple #[.int .i64 ((getP l nm).getD 0), .bool (getP l nm).isSome]) ∧ w' = w := by
  have hlen := hide h.len
  have Hd := hide (fun i q => @getP_drop l nm i q)
  obtain ⟨r, hr⟩ : ∃ r, r = getP l nm := ⟨_, rfl⟩
  rw [← hr]
  have Hr := hide hr
  clear hr
  go_enter Tryz.func53, Tryz.ntmps53
  go_wp2
  go_loopw [6] (fun v wr => ∃ i : Nat, i ≤ n ∧ v = .int .i64 (i : Int) ∧ Hid (r = getP (l.drop i) nm) ∧ wr = w) (fun v _ => n - (RowKit.intOf v).toNat)
  case atStart => exact ⟨0, by omega, rfl, Hr, rfl⟩
  case round =>
    obtain ⟨i, hi, rfl, hf, rfl⟩ := hrel
    by_cases hlt : i < n
    · obtain ⟨ad, q, rfl, hbl, hx, c1, c2⟩ := PkIn.at_ h hlt
      have hd := hf.out.trans (Hd.out i q hx)
      have he := eq_names q.1 nm
      clear hx hf Hd Hr h
      by_cases hq : q.1 = nm
      · rw [if_pos hq] at hd
        rw [decide_eq_true hq] at he
        have e := hide hd
        clear hd hq
        go_wp2
        go_ret2
        exact ⟨by rw [e.out]; rfl, rfl⟩
      · rw [if_neg hq] at hd
        rw [decide_eq_false hq] at he
        have e := hide hd
        clear hd hq
        go_wp2
        go_roundw
        case rel => exact ⟨i + 1, by omega, by go_num, e, by trivial⟩
        case measure => simp [RowKit.intOf]; omega
    · have e : Hid (r = none) := hide (by rw [hf.out, List.drop_of_length_le (by have := hlen.out; omega)]; rfl)
      clear hf
      go_wp2
      go_ret2
      exact ⟨by rw [e.out]; rfl, rfl⟩
end Go.Proofs.YtckioihkknhfpaaGreatDoor.Pick
