/-
  The contract of Get: a name's version. Condition: the names rise; no more than 1,000,000 picks.
-/
import Derived.Test.YtnkcjemobljpdaaDoorPickFind
namespace Go.Proofs.YtnkcjemobljpdaaDoor.Pick
open Go Go.RowKit Go.Lib Go.Proofs.YtnkcjemobljpdaaDoor.Need
set_option linter.unusedVariables false
set_option maxHeartbeats 2000000 in
theorem get_any (l : List Pk) (nm : ByteArray) (A : Option Addr) (n c : Nat) (w : World) (h : PkOn w A n l) (hr : RisesP l) (hn : n ≤ 1000000) :
    Calls Tryd.prog 11 #[.slice A n c, .string nm] w fun e w' => e = .returned (.tuple #[.int .i64 ((getP l nm).getD 0), .bool (getP l nm).isSome]) ∧ ∃ k, w' = w.drewN k := by
  have HF := hide (find_any l nm A n c w h hr hn)
  have hg := fidx_get hr nm
  have hlen := h.len
  have hle := fidx_le l nm
  clear hr
  cases e : getP l nm with
  | none =>
    rw [e] at HF
    clear h hg hlen hle
    generalize fidx l nm = f at *
    go_enter Tryd.func11, Tryd.ntmps11
    go_wp2_with (go_at_call 24
                 refine HF.out.mono ?_
                 rintro e w1 ⟨rfl, k, rfl⟩)
    go_ret2
    exact ⟨rfl, _, rfl⟩
  | some v =>
    rw [e] at HF hg
    generalize fidx l nm = f at *
    have hf : f < n := by
      cases hx : l[f]? with
      | none => rw [hx] at hg; cases hg
      | some q => have := (List.getElem?_eq_some_iff.1 hx).1; omega
    obtain ⟨ad, q, rfl, hbl, hx, c1, c2⟩ := PkIn.at_ h hf
    have hv : q.2 = v := by
      rw [hx, Option.bind_some] at hg
      split at hg
      · injection hg with hg; exact hg.symm
      · cases hg
    rw [hv] at c2
    have k1 : (0 : Int) ≤ (f : Int) := by omega
    have k2 : (f : Int) < (n : Int) := by omega
    clear h hg hlen hle hx hv
    go_enter Tryd.func11, Tryd.ntmps11
    go_wp2_with (go_at_call 24
                 refine HF.out.mono ?_
                 rintro e w1 ⟨rfl, k, rfl⟩)
    go_ret2
    exact ⟨rfl, _, rfl⟩
end Go.Proofs.YtnkcjemobljpdaaDoor.Pick
