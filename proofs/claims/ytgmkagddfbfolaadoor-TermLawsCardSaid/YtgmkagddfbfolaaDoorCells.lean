/-
  Words for texts and cells that need no type of the program: a string out of a list of bytes, cells of integers, rows of the call's own, what stays as memory grows. No condition. Of no program.
-/
import Derived.Test.YtgmkagddfbfolaaDoorBase
namespace Go.Proofs.YtgmkagddfbfolaaDoor
open Go.RowKit
set_option linter.unusedVariables false
/-- A string out of a list of bytes. -/
def str (l : List UInt8) : ByteArray := ⟨l.toArray⟩
theorem str_append (l m : List UInt8) : str l ++ str m = str (l ++ m) := by
  apply ByteArray.ext; simp [str]
theorem str_size (l : List UInt8) : (str l).size = l.length := by simp [str, ByteArray.size]
theorem str_of (s : ByteArray) : str s.data.toList = s := by cases s; rfl
theorem str_toList (l : List UInt8) : (str l).toList = l := ByteArray.toList_mk l
theorem str_inj {l m : List UInt8} : str l = str m ↔ l = m := ⟨fun h => by rw [← str_toList l, h, str_toList], fun h => by rw [h]⟩
theorem str_extract (l : List UInt8) (i j : Nat) : (str l).extract i j = str ((l.drop i).take (j - i)) := by
  apply ByteArray.ext
  simp [str, ByteArray.data_extract]
theorem str_extract_end (l : List UInt8) (i : Nat) : (str l).extract i (str l).size = str (l.drop i) := by
  rw [str_extract, str_size, List.take_of_length_le (by simp)]
theorem str_get (l : List UInt8) (i : Nat) (z : UInt8) (h : l[i]? = some z) : ∃ hi : i < (str l).size, (str l)[i] = z := by
  have hl : i < l.length := (List.getElem?_eq_some_iff.1 h).1
  refine ⟨by rw [str_size]; exact hl, ?_⟩
  have e : l[i] = z := (List.getElem?_eq_some_iff.1 h).2
  rw [← e]; rfl
theorem strOfNums_nats (l : List Nat) : strOfNums (l.map fun (n : Nat) => (n : Int)) = str (l.map UInt8.ofNat) := by
  apply ByteArray.ext
  simp [strOfNums, str]
/-- Integers as cells. -/
def ics (l : List Int) : List Value := l.map fun n => Value.int .i64 n
theorem ics_length (l : List Int) : (ics l).length = l.length := by simp [ics]
theorem ics_at {w : World} {B n k : Nat} {A : Option Addr} {l : List Int} (h : Reads w B 1 A n (ics l)) (hk : k < n) : ∃ ad z, A = some ad ∧ ad.block < B ∧ l[k]? = some z ∧ w.cell? (ad.add k) = some (.int .i64 z) := by
  obtain ⟨ad, u, hA, hb, hx, hc⟩ := h.at_ hk
  simp only [ics, List.getElem?_map, Option.map_eq_some_iff] at hx
  obtain ⟨z, hz, rfl⟩ := hx
  exact ⟨ad, z, hA, hb, hz, hc⟩
theorem bcs_at {w : World} {B n k : Nat} {A : Option Addr} {l : List UInt8} (h : Reads w B 1 A n (bcs l)) (hk : k < n) : ∃ ad z, A = some ad ∧ ad.block < B ∧ l[k]? = some z ∧ w.cell? (ad.add k) = some (.int .u8 (z.toNat : Int)) := by
  obtain ⟨ad, u, hA, hb, hx, hc⟩ := h.at_ hk
  simp only [bcs, List.getElem?_map, Option.map_eq_some_iff] at hx
  obtain ⟨z, hz, rfl⟩ := hx
  exact ⟨ad, z, hA, hb, hz, hc⟩
theorem add_zero' (a : Addr) : a.add 0 = a := by simp [Addr.add]
theorem take_snoc' {α : Type} (l : List α) (k : Nat) (a : α) (h : l[k]? = some a) : l.take (k + 1) = l.take k ++ [a] := by
  rw [List.take_add_one, h]; rfl
theorem one_cell (k : IntKind) (n : Int) : ∀ u ∈ [Value.int k n], u.oneCell' = true := by
  intro u hu
  rw [List.mem_singleton.1 hu]; rfl
theorem own_nil (w : World) (B : Nat) (e : TypeId) : w.ownsRow B e 1 (.slice none 0 0) 0 (bcs []) := World.ownsRow_nil w B e 1
theorem own_empty (w : World) (B : Nat) (e : TypeId) (hB : B ≤ w.heap.size) : (w.alloc (.cells #[] e)).ownsRow B e 1 (.slice (some ⟨w.heap.size, 0, none⟩) 0 0) 0 [] :=
  ⟨rfl, .inr ⟨w.heap.size, 0, #[], rfl, hB, heap_alloc_new w _, Nat.le_refl _, Nat.zero_le _, rfl, rfl⟩⟩
theorem Reads.newL (w : World) (e : TypeId) (vs : Array Value) : Reads (w.alloc (.cells vs e)) (w.heap.size + 1) 1 (some ⟨w.heap.size, 0, none⟩) vs.size vs.toList := by
  refine ⟨by simp, fun _ => ⟨_, rfl, by simp, fun j u hu => ?_⟩⟩
  have hadd : (⟨w.heap.size, 0, none⟩ : Addr).add j = ⟨w.heap.size, j, none⟩ := by unfold Addr.add; split <;> simp_all
  rw [hadd]
  exact ((Blk.new w e vs).cell j).trans (by simpa using hu)
/-- A row that bears a mark, as the bytes of a constant text do. -/
theorem Reads.newM (w : World) (e : TypeId) (vs : Array Value) (m : Nat × Nat) : Reads (w.alloc (.cells vs e m)) (w.heap.size + 1) 1 (some ⟨w.heap.size, 0, none⟩) vs.size vs.toList := by
  refine ⟨by simp, fun _ => ⟨_, rfl, by simp, fun j u hu => ?_⟩⟩
  have hadd : (⟨w.heap.size, 0, none⟩ : Addr).add j = ⟨w.heap.size, j, none⟩ := by unfold Addr.add; split <;> simp_all
  rw [hadd]
  exact (cell_of_row _ w.heap.size j vs e m (heap_alloc_new w _)).trans (by simpa using hu)
theorem bcs_set (l : List UInt8) (i : Nat) (y : UInt8) : bcs (l.set i y) = (bcs l).set i (.int .u8 (y.toNat : Int)) := by simp [bcs, List.map_set]
theorem below_of_only {B : Nat} {w0 w w' : World} {g : Nat} (h : Below B w0 w) (hg : w.grownBy w' (some g)) (hB : B ≤ w.heap.size) (hgB : B ≤ g) : Below B w0 w' :=
  h.grown hg hB (fun k hk => by have : g = k := by injection hk
                                omega)
theorem only_self (w : World) (g : Nat) : w.grownBy w (some g) := World.grownBy.refl w _
theorem bcell {W w1 : World} {B : Nat} (hb : Below B W w1) : (∀ b o, b < B → w1.cell? ⟨b, o, none⟩ = W.cell? ⟨b, o, none⟩) :=
  fun b o h => hb.cell (p := ⟨b, o, none⟩) h
theorem quiet_left {P : Program} {f : FuncId} {args : Array Value} {w : World} {n : Nat} {v : Value}
    (h : Calls P f args (w.drewN n) fun e w' => e = .returned v ∧ w.drewN n = w') : Calls P f args (w.drewN n) fun e w'' => e = .returned v ∧ ∃ m, w'' = w.drewN m :=
  h.mono fun _ _ ⟨he, hm⟩ => ⟨he, n, hm.symm⟩
/-- A drawn region made nothing: what held below holds. -/
theorem below_self (w : World) : Below w.heap.size w w := Below.refl _ _
end Go.Proofs.YtgmkagddfbfolaaDoor
