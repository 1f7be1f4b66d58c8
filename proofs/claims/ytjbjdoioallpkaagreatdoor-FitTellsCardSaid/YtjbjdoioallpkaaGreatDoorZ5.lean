/-
  Some texts of this claim, one behind the other: Words, VlqRef, VlqPutNum. What each proves, and its condition, stands at its head.
-/
import Derived.Test.YtjbjdoioallpkaaGreatDoorZ1
import Derived.Test.YtjbjdoioallpkaaGreatDoorChecked
import Derived.Lib.SlBytesConst
import Derived.Test.YtjbjdoioallpkaaGreatDoorZ4
/-
  Words for slices of bytes: a new slice of bytes, string() of it, what stays as memory grows. No condition.
-/
namespace Go.Proofs.YtjbjdoioallpkaaGreatDoor
open Go.RowKit
set_option linter.unusedVariables false
theorem info_u8 : (Tryz.prog.info? 5).map (fun i => (i.zero, i.size, i.bytes)) = some (some (.int .u8 0), 1, 1) := by kernel_rfl
theorem info_u8' : (Tryz.prog.info? 5).map (·.size) = some 1 := by kernel_rfl
/-- string() of a new slice of bytes, whatever the bytes are. -/
theorem conv_new (W : World) (zs : List Int) (c : Nat) : (convert 44 9 (.slice (some ⟨W.heap.size, 0, none⟩) zs.length c)).run Tryz.prog (W.alloc (.cells (zs.map (Value.int .u8)).toArray 5)) = .ok (.string (strOfNums zs)) (W.alloc (.cells (zs.map (Value.int .u8)).toArray 5)) := by
  refine run_convert_bytes_arg (P := Tryz.prog) _ 44 5 Tryz.underlying44 Tryz.underlying5 W.heap.size 0 zs.length c zs rfl ?_ 9 Tryz.underlying9
  intro i hi
  refine (World.cell?_alloc_at _ _ _ _ rfl).trans ?_
  simp [hi]
/-- '[]byte("..")' of a constant text. -/
theorem conv_const (w : World) (C : Array Value) (n c : Nat) : (convert 44 44 (.slice (some ⟨w.heap.size, 0, none⟩) n c)).run Tryz.prog (w.alloc (.cells C 5)) = .ok (.slice (some ⟨w.heap.size, 0, none⟩) n c) (w.alloc (.cells C 5 (C.size, C.size + 1))) :=
  Lib.run_convert_bytes_const (P := Tryz.prog) w 44 5 C n c Tryz.underlying44 Tryz.underlying5
/-- What a new slice of bytes is: it reads as l, and string() of it is l. -/
def NewB (w : World) (B : Nat) (A : Option Addr) (n c : Nat) (l : List UInt8) : Prop :=
  n = l.length ∧ n ≤ c ∧ w.ownsRow B 5 1 (.slice A n c) n (bcs l) ∧ Reads w w.heap.size 1 A n (bcs l)
theorem conv_of {w : World} {B n c : Nat} {A : Option Addr} {l : List UInt8} (h : Reads w B 1 A n (bcs l)) : (convert 44 9 (.slice A n c)).run Tryz.prog w = .ok (.string (str l)) w :=
  run_str w _ _ _ c Tryz.underlying44 Tryz.underlying5 Tryz.underlying9 h
theorem NewB.conv {w : World} {B : Nat} {A : Option Addr} {n c : Nat} {l : List UInt8} (h : NewB w B A n c l) : (convert 44 9 (.slice A n c)).run Tryz.prog w = .ok (.string (str l)) w := conv_of h.2.2.2
theorem new_of_own {w : World} {B n : Nat} {v : Value} {l : List UInt8} (h : w.ownsRow B 5 1 v n (bcs l)) : ∃ A c, v = .slice A n c ∧ NewB w B A n c l := by
  obtain ⟨A, c, rfl, hc, hm, hr⟩ := own_form h
  have hn : n = l.length := by have := h.1; rw [bcs_length] at this; omega
  exact ⟨A, c, rfl, hn, hc, h, hr⟩
theorem NewB.below {w w' : World} {B : Nat} {A : Option Addr} {n c : Nat} {l : List UInt8} (h : NewB w B A n c l) (hb : Below w.heap.size w w') : NewB w' B A n c l :=
  ⟨h.1, h.2.1, own_below h.2.2.1 hb, (h.2.2.2.below hb).more hb.size⟩
theorem NewB.less {w : World} {B B' : Nat} {A : Option Addr} {n c : Nat} {l : List UInt8} (h : NewB w B A n c l) (hB : B' ≤ B) : NewB w B' A n c l :=
  ⟨h.1, h.2.1, own_less h.2.2.1 hB, h.2.2.2⟩
/-- One byte of a new slice is written over. -/
theorem NewB.turn {w : World} {B : Nat} {A : Option Addr} {n c : Nat} {l : List UInt8} (h : NewB w B A n c l) (i : Nat) (z : UInt8) (hz : l[i]? = some z) :
    ∃ g, A = some ⟨g, 0, none⟩ ∧ B ≤ g ∧ g < w.heap.size ∧ w.cell? ⟨g, i, none⟩ = some (.int .u8 (z.toNat : Int)) ∧ w.frozen? ⟨g, i, none⟩ = false ∧
      ∀ y : UInt8, NewB (w.setCell ⟨g, i, none⟩ (.int .u8 (y.toNat : Int))) B A n c (l.set i y) := by
  obtain ⟨h1, h2, h3, h4⟩ := h
  have hi : i < l.length := (List.getElem?_eq_some_iff.1 hz).1
  rcases h3.2 with ⟨hv, hn⟩ | ⟨g, cap, cur, hv, hB, hg, hnc, hm, hcs, ht⟩
  · omega
  · injection hv with e1 e2 e3
    subst e1 e3
    have hb : Blk w g 5 cur := hg
    refine ⟨g, rfl, hB, hb.lt, ?_, hb.frozen i, fun y => ?_⟩
    · obtain ⟨ad, u, hA, _, hx, hc⟩ := h4.at_ (k := i) (by omega)
      injection hA with hA
      subst hA
      rw [bcs_get, hz] at hx
      have hadd : (⟨g, 0, none⟩ : Addr).add i = ⟨g, i, none⟩ := by unfold Addr.add; split <;> simp_all
      rw [hadd] at hc
      rw [hc]
      exact hx.symm
    · have hb2 := hb.set_ i (.int .u8 (y.toNat : Int))
      have hown : (w.setCell ⟨g, i, none⟩ (.int .u8 (y.toNat : Int))).ownsRow B 5 1 (.slice (some ⟨g, 0, none⟩) n c) n (bcs (l.set i y)) := by
        refine ⟨by rw [bcs_length, List.length_set]; omega, .inr ⟨g, c, _, rfl, hB, hb2, h2, hm, by simpa using hcs, ?_⟩⟩
        rw [bcs_set, ← ht]
        simp [List.take_set]
      exact ⟨by rw [List.length_set]; exact h1, h2, hown, .of_own hown⟩
end Go.Proofs.YtjbjdoioallpkaaGreatDoor
/-
  The contracts of the document's own Num, Nums and Text: they answer the bytes as the plain mathematics has them. Condition: lists and texts as long as a call may have them.
-/
namespace Go.Proofs.YtjbjdoioallpkaaGreatDoor.Vlq
open Go.RowKit
set_option linter.unusedVariables false
theorem conv1 (W : World) (z : Int) : (convert 44 9 (.slice (some ⟨W.heap.size, 0, none⟩) 1 1)).run Tryz.prog (W.alloc (.cells #[.int .u8 z] 5)) = .ok (.string (strOfNums [z])) (W.alloc (.cells #[.int .u8 z] 5)) := by
  refine run_convert_bytes_arg (P := Tryz.prog) (W.alloc (.cells #[.int .u8 z] 5)) 44 5 Tryz.underlying44 Tryz.underlying5 W.heap.size 0 1 1 [z] rfl ?_ 9 Tryz.underlying9
  intro i hi
  have h0 : i = 0 := by omega
  subst h0
  exact (World.cell?_alloc_at _ _ _ _ rfl).trans rfl
theorem strOfNums_one (z : Int) (y : Nat) (h : z = (y : Int)) : strOfNums [z] = str [UInt8.ofNat y] := by subst h; simp [strOfNums, str]
/-- The bytes of numbers. -/
def encs (l : List Int) : List UInt8 := l.flatMap fun n => enc (held n)
theorem encs_length (l : List Int) : (encs l).length ≤ 6 * l.length := by
  induction l with
  | nil => simp [encs]
  | cons n l ih =>
    have := enc_length (held n) (held_le n)
    simp only [encs, List.flatMap_cons, List.length_append, List.length_cons] at ih ⊢
    omega
theorem encs_snoc (l : List Int) (k : Nat) (n : Int) (h : l[k]? = some n) : encs (l.take (k + 1)) = encs (l.take k) ++ enc (held n) := by
  rw [take_snoc' l k n h]; simp [encs]
end Go.Proofs.YtjbjdoioallpkaaGreatDoor.Vlq
/-
  The contract of the program's putNum: it puts the document's bytes of the held number behind a slice of the call's own. Condition: the slice has at most 2^46 bytes.
-/
namespace Go.Proofs.YtjbjdoioallpkaaGreatDoor.Vlq
open Go.RowKit
set_option linter.unusedVariables false
theorem or128_all : ∀ k : Fin 256, bits .or .u8 (k.val : Int) 128 = ((UInt8.ofNat (128 + k.val % 128)).toNat : Int) := by decide +kernel
theorem andNot128_all : ∀ k : Fin 256, bits .andNot .u8 (k.val : Int) 128 = ((UInt8.ofNat (k.val % 128)).toNat : Int) := by decide +kernel
theorem or128 (y : Nat) : bits .or .u8 ((y : Int) % 256) 128 = ((UInt8.ofNat (128 + y % 128)).toNat : Int) := by
  have := or128_all ⟨y % 256, by omega⟩
  simp only at this
  rw [show ((y : Int) % 256) = ((y % 256 : Nat) : Int) from by omega, this, show y % 256 % 128 = y % 128 from by omega]
theorem andNot128 (y : Nat) : bits .andNot .u8 ((y : Int) % 256) 128 = ((UInt8.ofNat (y % 128)).toNat : Int) := by
  have := andNot128_all ⟨y % 256, by omega⟩
  simp only at this
  rw [show ((y : Int) % 256) = ((y % 256 : Nat) : Int) from by omega, this, show y % 256 % 128 = y % 128 from by omega]
theorem or128_cell (x i : Nat) : [Value.int .u8 (bits .or .u8 ((x : Int) / 2 ^ (7 * i) % 256) 128)] = bcs [UInt8.ofNat (128 + x / 128 ^ i % 128)] := by
  rw [int_div, or128]; rfl
theorem andNot128_cell (x : Nat) : [Value.int .u8 (bits .andNot .u8 ((x : Int) % 256) 128)] = bcs [UInt8.ofNat (x % 128)] := by
  rw [andNot128]; rfl
end Go.Proofs.YtjbjdoioallpkaaGreatDoor.Vlq
