/-
  What a slice of bytes or of integers that came in reads as. No condition. Of no program.
-/
import Derived.Test.YtlgdjnlilejoaaaCells
namespace Go.Proofs.Ytlgdjnlilejoaaa
open Go.RowKit
set_option linter.unusedVariables false
theorem row_reads {k : IntKind} {w : World} {a : Option Addr} {len cap : Nat} {zs : List Int}
    (h : (a = none ∧ len = 0 ∧ cap = 0 ∧ zs = []) ∨ ∃ x, a = some x ∧ len ≤ cap ∧ cap ≤ maxLen ∧ zs.length = cap ∧ (∀ i, i < zs.length → w.cell? (x.add i) = some (.int k (zs.getD i 0))) ∧ ∀ n ∈ zs, (Lit.int k n).wf = true) :
    len ≤ cap ∧ cap ≤ maxLen ∧ Reads w w.heap.size 1 a len ((zs.take len).map (Value.int k)) ∧ ∀ n ∈ zs.take len, (Lit.int k n).wf = true := by
  rcases h with ⟨rfl, rfl, rfl, rfl⟩ | ⟨x, rfl, hl, hm, hz, hc, hw⟩
  · exact ⟨Nat.le_refl _, by simp [maxLen], Reads.none_, by simp⟩
  · refine ⟨hl, hm, ⟨by simp; omega, fun hn => ⟨x, rfl, ?_, fun j u hu => ?_⟩⟩, fun n hn => hw n (List.mem_of_mem_take hn)⟩
    · have := World.block_lt_of_cell? w _ (hc 0 (by omega))
      rwa [block_of_add] at this
    · rw [List.getElem?_map, Option.map_eq_some_iff] at hu
      obtain ⟨z, hz2, rfl⟩ := hu
      rw [List.getElem?_take] at hz2
      split at hz2
      · rename_i hj
        rw [hc j (by omega)]
        simp [List.getD, hz2]
      · cases hz2
theorem row_bytes {w : World} {a : Option Addr} {len cap : Nat} {zs : List Int}
    (h : (a = none ∧ len = 0 ∧ cap = 0 ∧ zs = []) ∨ ∃ x, a = some x ∧ len ≤ cap ∧ cap ≤ maxLen ∧ zs.length = cap ∧ (∀ i, i < zs.length → w.cell? (x.add i) = some (.int .u8 (zs.getD i 0))) ∧ ∀ n ∈ zs, (Lit.int .u8 n).wf = true) :
    ∃ l, len ≤ cap ∧ cap ≤ maxLen ∧ Reads w w.heap.size 1 a len (bcs l) := by
  obtain ⟨h1, h2, h3, h4⟩ := row_reads h
  refine ⟨(zs.take len).map fun n => UInt8.ofNat n.toNat, h1, h2, ?_⟩
  have e : bcs ((zs.take len).map fun n => UInt8.ofNat n.toNat) = (zs.take len).map (Value.int .u8) := by
    unfold bcs
    rw [List.map_map]
    refine List.map_congr_left fun n hn => ?_
    have hx : 0 ≤ n ∧ n ≤ 255 := by simpa [Lit.wf, IntKind.min, IntKind.max, IntKind.signed, IntKind.bits] using h4 n hn
    simp only [Function.comp]
    congr 1
    rw [UInt8.toNat_ofNat']
    omega
  rw [e]
  exact h3
theorem row_ints {w : World} {a : Option Addr} {len cap : Nat} {zs : List Int}
    (h : (a = none ∧ len = 0 ∧ cap = 0 ∧ zs = []) ∨ ∃ x, a = some x ∧ len ≤ cap ∧ cap ≤ maxLen ∧ zs.length = cap ∧ (∀ i, i < zs.length → w.cell? (x.add i) = some (.int .i64 (zs.getD i 0))) ∧ ∀ n ∈ zs, (Lit.int .i64 n).wf = true) :
    ∃ l, len ≤ cap ∧ cap ≤ maxLen ∧ Reads w w.heap.size 1 a len (ics l) := by
  obtain ⟨h1, h2, h3, h4⟩ := row_reads h
  exact ⟨zs.take len, h1, h2, h3⟩
end Go.Proofs.Ytlgdjnlilejoaaa
