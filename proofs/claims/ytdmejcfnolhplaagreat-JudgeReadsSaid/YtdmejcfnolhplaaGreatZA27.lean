/-
  Some texts of this claim, one behind the other: ManiVers. What each proves, and its condition, stands at its head.
-/
import Derived.Test.YtdmejcfnolhplaaGreatZA21
import Derived.Test.YtdmejcfnolhplaaGreatZA14
import Derived.Test.YtdmejcfnolhplaaGreatZA26
/-
  Contracts of Vers, the program's and the document's: the set of a manifest's versions. Condition: at most 30 releases, whose versions are places.
-/
namespace Go.Proofs.YtdmejcfnolhplaaGreat.Mani
open Go Go.RowKit Go.Lib Go.Proofs.YtdmejcfnolhplaaGreat.Span Go.Proofs.YtdmejcfnolhplaaGreat.Need
set_option linter.unusedVariables false
def spanL (l : List Rl) : List S := l.map fun q => (q.1, q.1 + 1)
theorem spanL_take {l : List Rl} {i : Nat} {q : Rl} (h : l[i]? = some q) : spanL (l.take (i + 1)) = spanL (l.take i) ++ [(q.1, q.1 + 1)] := by
  unfold spanL
  rw [take_snoc' l i q h, List.map_append]
  rfl
theorem ofS_vers (l : List Rl) : ofS (spanL l) = versS l := by
  unfold ofS versS
  refine nf_congr fun p _ _ => ?_
  rw [Bool.eq_iff_iff, has_iff, inVers_iff]
  constructor
  · rintro ⟨s, hs, h1, h2⟩
    obtain ⟨q, hq, rfl⟩ := List.mem_map.1 hs
    exact ⟨q, hq, by simp only at h1 h2; omega⟩
  · rintro ⟨q, hq, rfl⟩
    exact ⟨(q.1, q.1 + 1), List.mem_map.2 ⟨q, hq, rfl⟩, by simp only []; omega, by simp only []; omega⟩
theorem vers_union {l : List Rl} {i : Nat} {q : Rl} (h : l[i]? = some q) : unionS (versS (l.take i)) (oneS q.1) = versS (l.take (i + 1)) := by
  unfold unionS
  refine nf_congr fun p h0 h1 => ?_
  show (has (versS (l.take i)) p || has (oneS q.1) p) = inVers (l.take (i + 1)) p
  unfold versS oneS
  rw [nf_in _ h0 h1, nf_in _ h0 h1, take_snoc' l i q h]
  unfold inVers
  rw [List.any_append, show decide (p = q.1) = decide (q.1 = p) from decide_eq_decide.2 eq_comm]
  simp
theorem len_of_rising {l : List Int} : ∀ {m : List Int}, l.Pairwise (· < ·) → (∀ x ∈ l, x ∈ m) → l.length ≤ m.length := by
  induction l with
  | nil => intro m _ _; simp
  | cons x t ih =>
    intro m h hm
    obtain ⟨h1, h2⟩ := List.pairwise_cons.1 h
    have hx := hm x (by simp)
    have := ih (m := m.erase x) h2 fun y hy => (List.mem_erase_of_ne (by have := h1 y hy; omega)).2 (hm y (by simp [hy]))
    rw [List.length_erase_of_mem hx] at this
    have := List.length_pos_of_mem hx
    simp only [List.length_cons]
    omega
theorem rising_set {l : List S} : ∀ {e : Int}, isSet e l = true → (l.map Prod.fst).Pairwise (· < ·) := by
  induction l with
  | nil => intro e _; exact List.Pairwise.nil
  | cons s t ih =>
    intro e h
    rw [isSet_cons] at h
    obtain ⟨h1, h2, h3, h4⟩ := h
    refine List.pairwise_cons.2 ⟨fun p hp => ?_, ih h4⟩
    obtain ⟨r, hr, rfl⟩ := List.mem_map.1 hp
    have := (mem_range h4 r hr).1
    omega
theorem vers_set (l : List Rl) : isSet (-1) (versS l) = true := nf_set _
theorem vers_len (l : List Rl) : (versS l).length ≤ l.length := by
  have := len_of_rising (m := l.map Prod.fst) (rising_set (vers_set l)) fun x hx => by
    obtain ⟨s, hs, rfl⟩ := List.mem_map.1 hx
    have hr := mem_range (vers_set l) s hs
    have hh : has (versS l) s.1 = true := (has_iff _ _).2 ⟨s, hs, by omega, by omega⟩
    unfold versS at hh
    rw [nf_in _ (by omega) (by omega), inVers_iff] at hh
    obtain ⟨q, hq, e⟩ := hh
    exact List.mem_map.2 ⟨q, hq, e⟩
  simpa using this
set_option maxHeartbeats 4000000 in
set_option maxRecDepth 100000 in
theorem refVersM_any (nm : ByteArray) (l : List Rl) (A : Option Addr) (n c : Nat) (w : World) (h : RlOn w A n l) (hn : n ≤ 30) :
    Calls Tryz.prog 88 #[.agg #[.string nm, .slice A n c]] w (Makes w (versS l)) := by
  unfold Makes
  have Hlen := hide h.len
  have hz : versS [] = [] := nf_nil.2 fun p _ _ => rfl
  go_enter Tryz.func88, Tryz.ntmps88
  go_wp2
  go_loopw [3, 4] (fun u v wr => ∃ (i : Nat) (Ax : Option Addr) (k cx : Nat), i ≤ n ∧ u = .slice Ax k cx ∧ v = .int .i64 (i : Int) ∧ SpOn wr Ax k (versS (l.take i)) ∧ Blk wr w.heap.size 100 #[.string nm, .slice A n c] ∧ Below w.heap.size w wr) (fun _ v _ => n - (RowKit.intOf v).toNat)
  case atStart => exact ⟨0, none, 0, 0, by omega, rfl, rfl, by rw [List.take_zero, hz]; exact SpIn.nil _ _ _, Blk.new _ _ _, (Below.refl _ _).alloc (Nat.le_refl _) _⟩
  case round =>
    obtain ⟨i, Ax, k, cx, hi, rfl, rfl, hN, hm, hb⟩ := hrel
    have hbs := hb.size
    have m1 := hm.cell 1
    by_cases hlt : i < n
    · obtain ⟨ad, q, A', n', c', rfl, hbl, hx, hs, c1, c2⟩ := RlIn.at_ (RlIn.below h hb) hlt
      have hu := hide (vers_union hx)
      have hk : k ≤ 1000 := by
        have h1 := hN.1
        have h2 := vers_len (l.take i)
        rw [List.length_take] at h2
        omega
      have ho1 : (oneS q.1).length ≤ 1 := by
        by_cases hq : 0 ≤ q.1 ∧ q.1 < 1000000000
        · rw [oneS_some hq.1 hq.2]; simp
        · rw [oneS_none hq]; simp
      obtain ⟨z, s⟩ := q
      simp only [] at c1 c2 hu ho1
      have HO := hide (fun wx => refOne_any z wx)
      have HU := hide (fun (wx : World) (hbx : Below wr.heap.size wr wx) (A1 : Option Addr) (m1 c1' : Nat) (h1 : SpOn wx A1 m1 (oneS z)) => refUnion_on (c := cx) (c' := c1') (hN.on hbx) h1 hk (by have := h1.1; omega))
      unfold Makes at HU
      rw [hu.out] at HU
      clear hx hs h hN hu
      go_wp2_with (first
        | (go_at_call 127
           refine (HU.out w1 hb1 A1 m1' c1' h1).mono ?_
           rintro e w2 ⟨A2, m2, c2', rfl, h2, hb2⟩
           have hb2' := hb1.trans (hb2.mono hb1.size)
           have hbw := hb.trans (hb2'.mono hbs)
           have hm2 := hm.below hb2' hm.lt)
        | (go_at_call 90
           refine (HO.out _).mono ?_
           rintro e w1 ⟨A1, m1', c1', rfl, h1, hb1⟩))
      go_roundw
      case rel => exact ⟨i + 1, A2, m2, c2', by omega, rfl, by go_num, h2, hm2, hbw⟩
      case measure => simp [RowKit.intOf]; omega
    · have hi2 : i = n := by omega
      subst hi2
      rw [List.take_of_length_le (by rw [Hlen.out]; exact Nat.le_refl _)] at hN
      clear h
      go_wp2
      go_ret
      exact ⟨Ax, k, cx, rfl, hN, hb⟩
end Go.Proofs.YtdmejcfnolhplaaGreat.Mani
