/-
  Some texts of this claim, one behind the other: IndexAt. What each proves, and its condition, stands at its head.
-/
import Derived.Test.YtmoeilkaadnnoaaGreatY32
import Derived.Test.YtmoeilkaadnnoaaGreatY11
/-
  Contracts of the program's New, of, Has and Len, at an index and at nil. Condition: a name of at most 1,000,000,000 bytes.
-/
namespace Go.Proofs.YtmoeilkaadnnoaaGreat.Index
open Go Go.RowKit Go.Lib Go.Proofs.YtmoeilkaadnnoaaGreat.Span Go.Proofs.YtmoeilkaadnnoaaGreat.Need Go.Proofs.YtmoeilkaadnnoaaGreat.Mani Go.Proofs.YtmoeilkaadnnoaaGreat.Wire Go.Proofs.YtmoeilkaadnnoaaGreat.Depot Go.Proofs.YtmoeilkaadnnoaaGreat.MapV
set_option linter.unusedVariables false
def Found (w : World) (v : Value) (nm : ByteArray) (o : Option Kv) : Prop := (o = none ∧ v = .nilIface) ∨ ∃ k, o = some k ∧ Kept w v nm k
theorem zero_known (w : World) : (zeroValue 104).run Tryz.prog w = .ok .nilIface w := by kernel_rfl
theorem look_any {w : World} {b : Nat} {l : List Kn} (h : IdxM w b l) (nm : ByteArray) (hs : nm.size ≤ maxLen) :
    ∃ v, (Instr.lookup 100 (.map (some b)) (.string nm) false).run Tryz.prog w = .ok v w ∧ Found w v nm (atX l nm) := by
  obtain ⟨val, ⟨D, ho, ht⟩, hk⟩ := h
  obtain ⟨v, ps, hrun, hv⟩ := ho.lookup keyed Tryz.underlying100 (zero_known w) (zd := .held .nilIface) (zp := []) rfl (key_ofS nm hs)
  have e := lookA_at ht hv
  refine ⟨v, hrun, ?_⟩
  rw [lookA_nvs] at e
  cases g : atX l nm with
  | none =>
    rw [g] at e
    exact .inl ⟨rfl, e⟩
  | some k =>
    rw [g] at e
    have e2 : v = val nm := e
    exact .inr ⟨k, rfl, by rw [e2]; exact hk _ (atX_in g)⟩
theorem look_none (w : World) (nm : ByteArray) (hs : nm.size ≤ maxLen) : (Instr.lookup 100 (.map none) (.string nm) false).run Tryz.prog w = .ok .nilIface w :=
  Maps.look_nil false keyed Tryz.underlying100 (zero_known w) (key_ofS nm hs)
set_option maxHeartbeats 2000000 in
set_option maxRecDepth 100000 in
theorem new_any (w : World) : Calls Tryz.prog 23 #[] w fun e w' => e = .returned (.pointer (some ⟨w.heap.size, 0, none⟩)) ∧ Idx w' w.heap.size none [] ∧ Below w.heap.size w w' := by
  go_enter Tryz.func23, Tryz.ntmps23
  go_wp2
  go_ret
  exact ⟨rfl, ⟨Blk.new _ _ _, .inl ⟨rfl, rfl⟩⟩, (Below.refl _ _).alloc (Nat.le_refl _) _⟩
set_option maxHeartbeats 2000000 in
set_option maxRecDepth 100000 in
theorem of_any (g : Nat) (mo : Option Nat) (l : List Kn) (nm : ByteArray) (w : World) (h : Idx w g mo l) (hnm : nm.size ≤ 1000000000) :
    Calls Tryz.prog 71 #[.pointer (some ⟨g, 0, none⟩), .string nm] w fun e w' => ∃ v, e = .returned v ∧ w = w' ∧ Found w v nm (atX l nm) := by
  have hs : nm.size ≤ maxLen := by unfold maxLen; omega
  obtain ⟨v, hrun, hf⟩ : ∃ v, (Instr.lookup 100 (.map mo) (.string nm) false).run Tryz.prog w = .ok v w ∧ Found w v nm (atX l nm) := by
    rcases h.2 with ⟨rfl, rfl⟩ | ⟨b, rfl, hm⟩
    · exact ⟨_, look_none w nm hs, .inl ⟨rfl, rfl⟩⟩
    · exact look_any hm nm hs
  have hc := (h.1.cell 0).trans (show (#[Value.map mo] : Array Value)[0]? = some (.map mo) from rfl)
  go_enter Tryz.func71, Tryz.ntmps71
  go_wp2
  go_ret
  exact ⟨v, rfl, rfl, hf⟩
set_option maxHeartbeats 2000000 in
set_option maxRecDepth 100000 in
theorem of_nil (nm : ByteArray) (w : World) : Calls Tryz.prog 71 #[.pointer none, .string nm] w fun e w' => e = .returned .nilIface ∧ w = w' := by
  go_enter Tryz.func71, Tryz.ntmps71
  go_wp2
  go_ret
  exact ⟨rfl, rfl⟩
theorem neq_iface (t : TypeId) (v : Value) (w : World) : (binOp .neq 104 (.iface t v) .nilIface).run Tryz.prog w = .ok (.bool true) w := by
  have h : ∀ d : Nat, (Op.equalIn (d + 1) 104 (.iface t v) .nilIface).run Tryz.prog w = .ok false w := fun d => by simp [Op.equalIn, run_underlying Tryz.underlying104]
  simp only [binOp]
  simp [Op.equal, Op.maxDepth, h 9999]
theorem neq_nil (w : World) : (binOp .neq 104 .nilIface .nilIface).run Tryz.prog w = .ok (.bool false) w := by
  have h : ∀ d : Nat, (Op.equalIn (d + 1) 104 .nilIface .nilIface).run Tryz.prog w = .ok true w := fun d => by simp [Op.equalIn, run_underlying Tryz.underlying104]
  simp only [binOp]
  simp [Op.equal, Op.maxDepth, h 9999]
set_option maxHeartbeats 2000000 in
set_option maxRecDepth 100000 in
theorem has_any (g : Nat) (mo : Option Nat) (l : List Kn) (nm : ByteArray) (w : World) (h : Idx w g mo l) (hnm : nm.size ≤ 1000000000) :
    Calls Tryz.prog 47 #[.pointer (some ⟨g, 0, none⟩), .string nm] w fun e w' => e = .returned (.bool (atX l nm).isSome) ∧ w = w' := by
  have HO := hide (of_any g mo l nm w h hnm)
  have h1 := neq_iface
  have h2 := neq_nil
  clear h hnm
  generalize atX l nm = o at *
  go_enter Tryz.func47, Tryz.ntmps47
  go_upto_region 1 with fail
  go_wp2_with (first
    | (go_at_call 71
       refine HO.out.mono ?_
       rintro e w1 ⟨v, rfl, rfl, hf⟩
       rcases hf with ⟨rfl, rfl⟩ | ⟨k, rfl, ⟨_, A, n, c, B, rs, rfl, _⟩ | ⟨_, rfl⟩⟩))
  all_goals (try go_wp2)
  all_goals (go_ret; exact ⟨rfl, rfl⟩)
set_option maxHeartbeats 2000000 in
set_option maxRecDepth 100000 in
theorem has_nil (nm : ByteArray) (w : World) : Calls Tryz.prog 47 #[.pointer none, .string nm] w fun e w' => e = .returned (.bool false) ∧ w = w' := by
  have HO := hide (of_nil nm w)
  have h2 := neq_nil
  go_enter Tryz.func47, Tryz.ntmps47
  go_wp2_with (first
    | (go_at_call 71
       refine HO.out.mono ?_
       rintro e w1 ⟨rfl, rfl⟩))
  go_ret
  exact ⟨rfl, rfl⟩
end Go.Proofs.YtmoeilkaadnnoaaGreat.Index
