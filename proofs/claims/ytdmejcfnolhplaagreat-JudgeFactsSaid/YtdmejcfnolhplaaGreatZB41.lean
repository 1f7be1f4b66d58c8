/-
  Some texts of this claim, one behind the other: ManiVers. What each proves, and its condition, stands at its head.
-/
import Derived.Test.YtdmejcfnolhplaaGreatZB19
import Derived.Test.YtdmejcfnolhplaaGreatZB39
import Derived.Test.YtdmejcfnolhplaaGreatZB23
/-
  Contracts of Vers, the program's and the document's: the set of a manifest's versions. Condition: at most 30 releases, whose versions are places.
-/
namespace Go.Proofs.YtdmejcfnolhplaaGreat.Mani
open Go Go.RowKit Go.Lib Go.Proofs.YtdmejcfnolhplaaGreat.Span Go.Proofs.YtdmejcfnolhplaaGreat.Need
set_option linter.unusedVariables false
def spanL (l : List Rl) : List S := l.map fun q => (q.1, q.1 + 1)
theorem spanL_take {l : List Rl} {i : Nat} {q : Rl} (h : l[i]? = some q) : spanL (l.take (i + 1)) = spanL (l.take i) ++ [(q.1, q.1 + 1)] := by
  unfold spanL
  rw [take_snoc' l i q h, List.map_append]
  rfl
theorem ofS_vers (l : List Rl) : ofS (spanL l) = versS l := by
  unfold ofS versS
  refine nf_congr fun p _ _ => ?_
  rw [Bool.eq_iff_iff, has_iff, inVers_iff]
  constructor
  · rintro ⟨s, hs, h1, h2⟩
    obtain ⟨q, hq, rfl⟩ := List.mem_map.1 hs
    exact ⟨q, hq, by simp only at h1 h2; omega⟩
  · rintro ⟨q, hq, rfl⟩
    exact ⟨(q.1, q.1 + 1), List.mem_map.2 ⟨q, hq, rfl⟩, by simp only []; omega, by simp only []; omega⟩
end Go.Proofs.YtdmejcfnolhplaaGreat.Mani
