/-
  Words for slices of bytes: a new slice of bytes, string() of it, what stays as memory grows. No condition.
-/
import Derived.Test.YtgmkagddfbfolaaDoorCells
import Derived.Test.YtgmkagddfbfolaaDoorChecked
import Derived.Lib.SlBytesConst
namespace Go.Proofs.YtgmkagddfbfolaaDoor
open Go.RowKit
set_option linter.unusedVariables false
theorem info_u8 : (Tryd.prog.info? 5).map (fun i => (i.zero, i.size, i.bytes)) = some (some (.int .u8 0), 1, 1) := by kernel_rfl
theorem info_u8' : (Tryd.prog.info? 5).map (·.size) = some 1 := by kernel_rfl
/-- string() of a new slice of bytes, whatever the bytes are. -/
theorem conv_new (W : World) (zs : List Int) (c : Nat) : (convert 69 9 (.slice (some ⟨W.heap.size, 0, none⟩) zs.length c)).run Tryd.prog (W.alloc (.cells (zs.map (Value.int .u8)).toArray 5)) = .ok (.string (strOfNums zs)) (W.alloc (.cells (zs.map (Value.int .u8)).toArray 5)) := by
  refine run_convert_bytes_arg (P := Tryd.prog) _ 69 5 Tryd.underlying69 Tryd.underlying5 W.heap.size 0 zs.length c zs rfl ?_ 9 Tryd.underlying9
  intro i hi
  refine (World.cell?_alloc_at _ _ _ _ rfl).trans ?_
  simp [hi]
/-- '[]byte("..")' of a constant text. -/
theorem conv_const (w : World) (C : Array Value) (n c : Nat) : (convert 69 69 (.slice (some ⟨w.heap.size, 0, none⟩) n c)).run Tryd.prog (w.alloc (.cells C 5)) = .ok (.slice (some ⟨w.heap.size, 0, none⟩) n c) (w.alloc (.cells C 5 (C.size, C.size + 1))) :=
  Lib.run_convert_bytes_const (P := Tryd.prog) w 69 5 C n c Tryd.underlying69 Tryd.underlying5
/-- What a new slice of bytes is: it reads as l, and string() of it is l. -/
def NewB (w : World) (B : Nat) (A : Option Addr) (n c : Nat) (l : List UInt8) : Prop :=
  n = l.length ∧ n ≤ c ∧ w.ownsRow B 5 1 (.slice A n c) n (bcs l) ∧ Reads w w.heap.size 1 A n (bcs l)
theorem conv_of {w : World} {B n c : Nat} {A : Option Addr} {l : List UInt8} (h : Reads w B 1 A n (bcs l)) : (convert 69 9 (.slice A n c)).run Tryd.prog w = .ok (.string (str l)) w :=
  run_str w _ _ _ c Tryd.underlying69 Tryd.underlying5 Tryd.underlying9 h
theorem NewB.conv {w : World} {B : Nat} {A : Option Addr} {n c : Nat} {l : List UInt8} (h : NewB w B A n c l) : (convert 69 9 (.slice A n c)).run Tryd.prog w = .ok (.string (str l)) w := conv_of h.2.2.2
theorem new_of_own {w : World} {B n : Nat} {v : Value} {l : List UInt8} (h : w.ownsRow B 5 1 v n (bcs l)) : ∃ A c, v = .slice A n c ∧ NewB w B A n c l := by
  obtain ⟨A, c, rfl, hc, hm, hr⟩ := own_form h
  have hn : n = l.length := by have := h.1; rw [bcs_length] at this; omega
  exact ⟨A, c, rfl, hn, hc, h, hr⟩
theorem NewB.below {w w' : World} {B : Nat} {A : Option Addr} {n c : Nat} {l : List UInt8} (h : NewB w B A n c l) (hb : Below w.heap.size w w') : NewB w' B A n c l :=
  ⟨h.1, h.2.1, own_below h.2.2.1 hb, (h.2.2.2.below hb).more hb.size⟩
theorem NewB.less {w : World} {B B' : Nat} {A : Option Addr} {n c : Nat} {l : List UInt8} (h : NewB w B A n c l) (hB : B' ≤ B) : NewB w B' A n c l :=
  ⟨h.1, h.2.1, own_less h.2.2.1 hB, h.2.2.2⟩
/-- One byte of a new slice is written over. -/
theorem NewB.turn {w : World} {B : Nat} {A : Option Addr} {n c : Nat} {l : List UInt8} (h : NewB w B A n c l) (i : Nat) (z : UInt8) (hz : l[i]? = some z) :
    ∃ g, A = some ⟨g, 0, none⟩ ∧ B ≤ g ∧ g < w.heap.size ∧ w.cell? ⟨g, i, none⟩ = some (.int .u8 (z.toNat : Int)) ∧ w.frozen? ⟨g, i, none⟩ = false ∧
      ∀ y : UInt8, NewB (w.setCell ⟨g, i, none⟩ (.int .u8 (y.toNat : Int))) B A n c (l.set i y) := by
  obtain ⟨h1, h2, h3, h4⟩ := h
  have hi : i < l.length := (List.getElem?_eq_some_iff.1 hz).1
  rcases h3.2 with ⟨hv, hn⟩ | ⟨g, cap, cur, hv, hB, hg, hnc, hm, hcs, ht⟩
  · omega
  · injection hv with e1 e2 e3
    subst e1 e3
    have hb : Blk w g 5 cur := hg
    refine ⟨g, rfl, hB, hb.lt, ?_, hb.frozen i, fun y => ?_⟩
    · obtain ⟨ad, u, hA, _, hx, hc⟩ := h4.at_ (k := i) (by omega)
      injection hA with hA
      subst hA
      rw [bcs_get, hz] at hx
      have hadd : (⟨g, 0, none⟩ : Addr).add i = ⟨g, i, none⟩ := by unfold Addr.add; split <;> simp_all
      rw [hadd] at hc
      rw [hc]
      exact hx.symm
    · have hb2 := hb.set_ i (.int .u8 (y.toNat : Int))
      have hown : (w.setCell ⟨g, i, none⟩ (.int .u8 (y.toNat : Int))).ownsRow B 5 1 (.slice (some ⟨g, 0, none⟩) n c) n (bcs (l.set i y)) := by
        refine ⟨by rw [bcs_length, List.length_set]; omega, .inr ⟨g, c, _, rfl, hB, hb2, h2, hm, by simpa using hcs, ?_⟩⟩
        rw [bcs_set, ← ht]
        simp [List.take_set]
      exact ⟨by rw [List.length_set]; exact h1, h2, hown, .of_own hown⟩
end Go.Proofs.YtgmkagddfbfolaaDoor
