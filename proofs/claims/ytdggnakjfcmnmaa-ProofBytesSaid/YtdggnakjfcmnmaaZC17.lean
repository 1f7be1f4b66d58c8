/-
  Some texts of this claim, one behind the other: GrowWords. What each proves, and its condition, stands at its head.
-/
import Derived.Test.YtdggnakjfcmnmaaZC11
import Derived.Test.YtdggnakjfcmnmaaZC16
/-
  Words for the walk of regions that make memory: a new slice of bytes as a relation; what the conversion to a text yields in each world of the class. No condition.
-/
namespace Go.Proofs.Ytdggnakjfcmnmaa.Grow
open Go Go.RowKit
set_option linter.unusedVariables false
def isB (B : Nat) (l : List UInt8) : Rel := fun w v => ∃ A n c, v = .slice A n c ∧ NewB w B A n c l
theorem isB_stable (B : Nat) (l : List UInt8) : ∀ w w' v, Below w.heap.size w w' → isB B l w v → isB B l w' v :=
  fun _ _ _ hb ⟨A, n, c, hv, hn⟩ => ⟨A, n, c, hv, hn.below hb⟩
theorem conv_reg {w : World} {n c : Nat} {A : Option Addr} {l : List UInt8} (h : Reads w w.heap.size 1 A n (bcs l)) (d : Nat) (os : Array Obj) :
    (convert 30 9 (.slice A n c)).run Try.prog (Sort.grow (redrawn w d) os) = .ok (.string (str l)) (Sort.grow (redrawn w d) os) :=
  conv_of (h.below (below_regrown w d os))
theorem call_isC {f : FuncId} {args : Array Value} {w' : World} {c : Value} (h : Calls Try.prog f args w' fun e w'' => e = .returned c ∧ Below w'.heap.size w' w'') :
    Calls Try.prog f args w' fun e w'' => ∃ v, e = .returned v ∧ Below w'.heap.size w' w'' ∧ isC c w'' v :=
  h.mono fun _ _ ⟨he, hb⟩ => ⟨_, he, hb, rfl⟩
theorem slice_def (A : Option Addr) (n c : Nat) : Value.slice A n c ≠ undef := by intro h; cases h
section
variable {ops : Array Oper} {C : World → Prop} {T : List (Nat × Rel)} {Q : Exit → Act → World → Prop} {o : Oper} {rest : List Oper} {a : Act}
theorem lex_convB {B : Nat} {l : List UInt8} {t : Nat} {A : Option Addr} {n c : Nat} (hw : Region.wanted o (yielded ops a.tmps) = true) (hT : dstRel T o = none) (ho : o.op = .convert 30 9 (.tmp t))
    (ht : (opTmps o).contains t = true) (hl : look T t = some (isB B l)) (hx : a.eval (.tmp t) = .slice A n c) (h : Lex Try.prog ops C T Q rest (a.put o.dst (.string (str l)))) : Lex Try.prog ops C T Q (o :: rest) a := by
  refine lex_val hw hT (.string (str l)) (fun w hC hK => ?_) h
  have h1 := hK.at_ t ht hl (by rw [hx]; exact slice_def A n c)
  obtain ⟨A', n', c', e, hn⟩ := h1
  rw [hx] at e
  injection e with e1 e2 e3
  subst e1 e2 e3
  have hcv := hn.conv
  unfold execOp
  simp only [ho, hx, Sem.run_bind, hcv, Result.andThen_ok, Sem.run_pure]
end
end Go.Proofs.Ytdggnakjfcmnmaa.Grow
