/-
  Some texts of this claim, one behind the other: SpanOnOf, ManiVersP. What each proves, and its condition, stands at its head.
-/
import Derived.Test.YtdmejcfnolhplaaGreatZA14
import Derived.Test.YtdmejcfnolhplaaGreatZA15
import Derived.Test.YtdmejcfnolhplaaGreatZA27
/-
  Of in the one form; the chapter's example (awake). No condition but a length that may be walked.
-/
namespace Go.Proofs.YtdmejcfnolhplaaGreat.Span
open Go Go.RowKit Go.Lib
set_option linter.unusedVariables false
section
variable {A A' : Option Addr} {n c n' c' : Nat} {l m : List S} {w : World}
theorem of_on (h : SpOn w A n l) (hn : n ≤ 1000000) : Calls Tryz.prog 149 #[.slice A n c] w (Makes w (ofS l)) := makes_of (of_any w h (Nat.le_refl _) hn)
end
end Go.Proofs.YtdmejcfnolhplaaGreat.Span
/-
  The contract of the program's Vers: the versions that a manifest has. Condition: at most 30 releases, of versions in range.
-/
namespace Go.Proofs.YtdmejcfnolhplaaGreat.Mani
open Go Go.RowKit Go.Lib Go.Proofs.YtdmejcfnolhplaaGreat.Span Go.Proofs.YtdmejcfnolhplaaGreat.Need
set_option linter.unusedVariables false
set_option maxHeartbeats 4000000 in
set_option maxRecDepth 100000 in
theorem versM_any (nm : ByteArray) (l : List Rl) (A : Option Addr) (n c : Nat) (w : World) (h : RlOn w A n l) (hn : n ≤ 30) (hp : ∀ q ∈ l, 0 ≤ q.1 ∧ q.1 < 1000000000) :
    Calls Tryz.prog 113 #[.agg #[.string nm, .slice A n c]] w (Makes w (versS l)) := by
  unfold Makes
  obtain ⟨i0, hi0, hz0, hz1, hz2⟩ := info_parts info_span
  have Hlen := hide h.len
  have HV := hide (ofS_vers l)
  go_enter Tryz.func113, Tryz.ntmps113
  go_wp2
  go_loopw [3, 9] (fun u v wr => ∃ (i : Nat) (Ax : Option Addr) (cx : Nat), i ≤ n ∧ u = .slice Ax i cx ∧ v = .int .i64 (i : Int) ∧ NewS wr w.heap.size Ax i cx (spanL (l.take i)) ∧ Below w.heap.size w wr) (fun _ v _ => n - (RowKit.intOf v).toNat)
  case atStart => exact ⟨0, none, 0, by omega, rfl, rfl, NewS.nil_ _ _, (Below.refl _ _).alloc (Nat.le_refl _) _⟩
  case round =>
    obtain ⟨i, Ax, cx, hi, rfl, rfl, hN, hb⟩ := hrel
    have hbs := hb.size
    by_cases hlt : i < n
    · obtain ⟨ad, q, A', n', c', rfl, hbl, hx, hs, c1, c2⟩ := RlIn.at_ (RlIn.below h hb) hlt
      obtain ⟨p0, p1⟩ := hp q (List.mem_of_getElem? hx)
      have htk := hide (spanL_take hx)
      obtain ⟨z, s⟩ := q
      simp only [] at c1 c2 p0 p1 htk
      have HO := hide (fun wx => one_any z wx (by omega) (by omega))
      rw [oneS_some p0 p1] at HO
      have hNa := hN.alloc (.cells #[.int .i64 z, .slice A' n' c'] 136)
      clear hx hs h hp
      go_wp2_with (first
        | (go_at_call 115
           refine (HO.out _).mono ?_; rintro e w1 ⟨A1, m1, c1', rfl, hN1, hb1⟩; obtain rfl : m1 = 1 := hN1.1; have hbx := (alloc_b (w := wr) (.cells #[.int .i64 z, .slice A' n' c'] 136)).trans (hb1.mono (by simp)); have hNb := hN.below hbx; have hr1 := reads_of_spIn hN1.2.2.2; have hbw1 := hb.trans (hbx.mono hbs); have hbs1 := hbw1.size)
        | (at_builtin
           refine wpList_append_any _ rfl (.tmp 13) (.tmp 16) _ rfl w.heap.size 67 i0 _ 2 16 Tryz.underlying58 hi0 hz0 hz1 hz2 rfl (by omega) _ i (scs (spanL (l.take i))) rfl hNb.2.2.1 _ _ 1 _ _ rfl hr1 (scs_one _) (by unfold maxLen; omega) (by omega) hbs1 ?_
           intro v2 w3 hown3 hg3 _
           rw [← scs_append, ← htk.out] at hown3
           obtain ⟨A3, c3, rfl, hN3⟩ := newS_of_own hown3
           have hb3 : Below w.heap.size w w3 := hbw1.grown hg3 hbs1 (fun k hk => (hNb.2.2.1.lt k hk).1)))
      go_roundw
      case rel => exact ⟨i + 1, A3, c3, by omega, rfl, by go_num, hN3, hb3⟩
      case measure => simp [RowKit.intOf]; omega
    · have hi2 : i = n := by omega
      subst hi2
      rw [List.take_of_length_le (by rw [Hlen.out]; exact Nat.le_refl _)] at hN
      have HOf := hide (of_on (c := cx) hN.2.2.2 (by omega))
      rw [HV.out] at HOf
      unfold Makes at HOf
      clear hN h hp
      go_wp2_with (go_at_call 149
                   refine HOf.out.mono ?_
                   rintro e w1 ⟨A1, m1, c1', rfl, h1, hb1⟩
                   have hbw := hb.trans (hb1.mono hbs))
      go_ret
      exact ⟨A1, m1, c1', rfl, h1, hbw⟩
end Go.Proofs.YtdmejcfnolhplaaGreat.Mani
