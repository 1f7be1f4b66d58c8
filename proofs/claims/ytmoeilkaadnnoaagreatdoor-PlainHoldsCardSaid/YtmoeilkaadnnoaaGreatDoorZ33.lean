/-
  Some texts of this claim, one behind the other: ReachFresh. What each proves, and its condition, stands at its head.
-/
import Derived.Test.YtmoeilkaadnnoaaGreatDoorZ32
import Derived.Test.YtmoeilkaadnnoaaGreatDoorZ25
/-
  Contracts of the program's asked and fresh: the names of needs; those of some names that were not found yet, which are found from then on. Condition: lists and names of a length that may be walked.
-/
namespace Go.Proofs.YtmoeilkaadnnoaaGreatDoor.Reach
open Go Go.RowKit Go.Lib Go.Proofs.YtmoeilkaadnnoaaGreatDoor.Span Go.Proofs.YtmoeilkaadnnoaaGreatDoor.Need Go.Proofs.YtmoeilkaadnnoaaGreatDoor.Mani Go.Proofs.YtmoeilkaadnnoaaGreatDoor.Wire Go.Proofs.YtmoeilkaadnnoaaGreatDoor.Depot Go.Proofs.YtmoeilkaadnnoaaGreatDoor.Index
set_option linter.unusedVariables false
set_option maxHeartbeats 4000000 in
set_option maxRecDepth 100000 in
theorem asked_any (l : List Nd) (A : Option Addr) (n c : Nat) (w : World) (h : NdOn w A n l) (hn : n ≤ 1000000) (hl : ∀ q ∈ l, q.1.size ≤ 1000000000) :
    Calls Tryz.prog 35 #[.slice A n c] w (MakesT w (namesS l)) := by
  unfold MakesT
  obtain ⟨i0, hi0, hz0, hz1, hz2⟩ := info_parts info_str
  have Hlen := hide h.len
  go_enter Tryz.func35, Tryz.ntmps35
  go_wp2
  go_loopw [3, 8] (fun u v wr => ∃ (i : Nat), i ≤ n ∧ v = .int .i64 (i : Int) ∧ wr.ownsRow w.heap.size 9 1 u i (tcs (namesS (l.take i))) ∧ Below w.heap.size w wr) (fun _ v _ => n - (RowKit.intOf v).toNat)
  case atStart => exact ⟨0, by omega, rfl, World.ownsRow_nil _ _ _ _, Below.refl _ _⟩
  case round =>
    obtain ⟨i, hi, rfl, hown, hb⟩ := hrel
    have hbs := hb.size
    obtain ⟨Ax, cx, rfl, hcx, hrd⟩ := own_texts hown
    by_cases hlt : i < n
    · obtain ⟨ad, q, A', n', c', rfl, hbl, hx, hs, c1, c2⟩ := NdIn.at_ (NdIn.below h hb) hlt
      have hq := hl q (List.mem_of_getElem? hx)
      have hst := namesS_take hx
      obtain ⟨x, s⟩ := q
      simp only [] at c1 c2 hs hq hst
      have HC := hide (fun wx => Label.clone_any x wx hq)
      have Hst := hide hst
      clear hst hx hs hq hrd h hl
      go_wp2_with (first
        | (go_at_call 20
           refine (HC.out _).mono ?_
           rintro e w1 ⟨rfl, hb1⟩
           have hbx := (alloc_b (w := wr) (.cells #[.string x, .slice A' n' c'] 48)).trans (hb1.mono (by simp))
           have hown1 := own_below hown hbx
           have hb2 := hb.trans (hbx.mono hbs)
           have hbs2 := hb2.size)
        | (at_builtin
           refine wpList_append_any _ rfl _ _ _ rfl w.heap.size 9 i0 _ 1 16 Tryz.underlying36 hi0 hz0 hz1 hz2 rfl (by omega) _ i (tcs (namesS (l.take i))) rfl (own_below hown1 (alloc_b (.cells #[.string x] 9))) _ _ 1 _ _ rfl (Reads.new1 _ 9 (.string x)) (one_str _) (by unfold maxLen; omega) (by omega) (by simp; omega) ?_
           intro v2 w3 hown3 hg3 _
           have hb3 : Below w.heap.size w w3 := (hb2.alloc hbs2 _).grown hg3 (by simp; omega) (fun k hk => (hown1.lt k hk).1)))
      go_roundw
      case rel => exact ⟨i + 1, by omega, by go_num, by rw [Hst.out, tcs_append]; exact hown3, hb3⟩
      case measure => simp [RowKit.intOf]; omega
    · have hi2 : i = n := by omega
      subst hi2
      rw [List.take_of_length_le (by rw [Hlen.out]; exact Nat.le_refl _)] at hrd
      clear h hl hown
      go_wp2
      go_ret
      exact ⟨Ax, i, cx, rfl, hrd, hb⟩
/-- Names of a length that may be walked. -/
def ShortN (l : List ByteArray) : Prop := ∀ x ∈ l, x.size ≤ 1000000000
theorem zero_unit (w : World) : (zeroValue 101).run Tryz.prog w = .ok (.agg #[]) w := by kernel_rfl
theorem has_of_in {acc : List ByteArray} {x : ByteArray} (h : x ∈ acc) : Maps.has (setN acc) (.string (bytesOf x)) = true := (has_setN acc _).2 ⟨x, h, rfl⟩
theorem has_of_not {acc : List ByteArray} {x : ByteArray} (h : x ∉ acc) : Maps.has (setN acc) (.string (bytesOf x)) = false := by
  cases g : Maps.has (setN acc) (.string (bytesOf x)) with
  | false => rfl
  | true =>
    obtain ⟨y, hy, e⟩ := (has_setN acc _).1 g
    exact absurd (bytesOf_inj e ▸ hy) h
/-- The set of names found, in a map of the call's own. -/
abbrev OwnF (w : World) (b : Nat) (acc : List ByteArray) : Prop := w.ownsMap Tryz.prog 9 (unitElem (H := Unit)) b acc.length (setN acc)
theorem ne_map {w : World} {P : Program} {k : TypeId} {R : Value → Option (DataW Unit × List MemPlace)} {b n : Nat} {D : DataW Unit} {p : Addr} {u : Value} (hM : w.ownsMap P k R b n D) (hc : w.cell? p = some u) : p.block ≠ b := by
  rintro rfl
  obtain ⟨es, clock, hb, _⟩ := hM
  simp [World.cell?, hb] at hc
theorem farT_set {w : World} {P : Program} {k : TypeId} {R : Value → Option (DataW Unit × List MemPlace)} {b n : Nat} {D : DataW Unit} (T : TypeId) (h : w.ownsMap P k R b n D) : FarT w T (some b) := by
  obtain ⟨es, clock, hb, _⟩ := h
  intro b' cur m h e
  injection e with e
  subst e
  rw [hb] at h
  cases h
/-- What fresh answers. -/
def Freshes (w : World) (b : Nat) (acc l : List ByteArray) (e : Ending) (w' : World) : Prop :=
  ∃ v, e = .returned v ∧ w'.ownsRow w.heap.size 9 1 v (newF acc l).length (tcs (newF acc l)) ∧ OwnF w' b (acc ++ newF acc l) ∧ w.grownBy w' (some b)
set_option maxHeartbeats 4000000 in
set_option maxRecDepth 100000 in
theorem fresh_any (acc l : List ByteArray) (b : Nat) (A : Option Addr) (n c : Nat) (w : World) (hM : OwnF w b acc) (h : TxOn w A n l) (hn : n ≤ 1000000) (ha : acc.length ≤ 1000000) (hl : ShortN l) :
    Calls Tryz.prog 34 #[.map (some b), .slice A n c] w (Freshes w b acc l) := by
  unfold Freshes
  obtain ⟨i0, hi0, hz0, hz1, hz2⟩ := info_parts info_str
  have Hlen := hide h.len
  have hblt := hM.lt
  have hz := zero_unit
  go_enter Tryz.func34, Tryz.ntmps34
  go_wp2
  go_loopw [5, 12] (fun u v wr => ∃ (i : Nat) (o : List ByteArray), i ≤ n ∧ v = .int .i64 (i : Int) ∧ Hid (o = newF acc (l.take i)) ∧ o.length ≤ i ∧ wr.ownsRow w.heap.size 9 1 u o.length (tcs o) ∧ OwnF wr b (acc ++ o) ∧ w.grownBy wr (some b)) (fun _ v _ => n - (RowKit.intOf v).toNat)
  case atStart => exact ⟨0, [], by omega, rfl, hide rfl, by simp, World.ownsRow_nil _ _ _ _, by simpa using hM, World.grownBy.refl _ _⟩
  case round =>
    obtain ⟨i, o, hi, rfl, ho, hol, hown, hMr, hg⟩ := hrel
    have hgs := hg.size
    obtain ⟨Ax, cx, rfl, hcx, hrd⟩ := own_texts hown
    have hlo : (acc ++ o).length ≤ 3000000 := by rw [List.length_append]; omega
    by_cases hlt : i < n
    · obtain ⟨ad, x, rfl, had, hx, hc⟩ := tcs_at h hlt
      have hnb := ne_map hM hc
      rw [block_of_add] at hnb
      have hc0 : wr.cell? (ad.add i) = some (.string x) := (World.cell?_of_block (by rw [block_of_add]; exact hg.block _ had (by intro e; injection e with e; exact hnb e))).trans hc
      have hsx := hl x (List.mem_of_getElem? hx)
      have hkey := hide (key_of x (by unfold maxLen; omega))
      have hst := newF_take (acc := acc) hx
      rw [← ho.out] at hst
      have hrl := hide (row_ne_low hown hblt)
      have hal := fun (o : Obj) => (World.grownBy_alloc wr o none).but (some b)
      have hpl := hide (fun (o : Obj) => own_below hown (alloc_b o))
      clear hrd hx hc h hl hM hnb
      by_cases hin : x ∈ acc ++ o
      · rw [if_pos hin] at hst
        have hh := has_of_in hin
        have Hst := hide hst
        clear hst hin
        go_wp2_with (first
          | (at_lookup
             refine wpList_lookup_own_unit _ rfl _ _ 78 rfl 9 101 (Maps.string_keyed Tryz.underlying9) Tryz.underlying78 (hz _) b (acc ++ o).length (setN (acc ++ o)) rfl hMr _ _ rfl hkey.out ?_
             rw [hh]))
        go_roundw
        case rel => exact ⟨i + 1, o, by omega, by go_num, hide Hst.out.symm, by omega, hown.alloc _, hMr.alloc _, hg.trans (hal _)⟩
        case measure => simp [RowKit.intOf]; omega
      · rw [if_neg hin] at hst
        have hh := has_of_not hin
        have Hst := hide hst
        have hput := setN_snoc (acc ++ o) x
        have Hput := hide hput
        clear hst hin hput
        go_wp2_with (first
          | (at_lookup
             refine wpList_lookup_own_unit _ rfl _ _ 78 rfl 9 101 (Maps.string_keyed Tryz.underlying9) Tryz.underlying78 (hz _) b (acc ++ o).length (setN (acc ++ o)) rfl hMr _ _ rfl hkey.out ?_
             rw [hh])
          | (at_mapUpdate
             refine wpList_mapUpdate_own _ rfl _ _ _ 78 rfl 9 101 (Maps.string_keyed Tryz.underlying9) Tryz.underlying78 unitElem b (acc ++ o).length (setN (acc ++ o)) rfl (hMr.alloc _) (by unfold maxLen; omega) _ _ (.string (bytesOf x)) rfl rfl hkey.out (.agg []) [] unitElem_mk ?_
             intro w3 hM3 hg3
             have hg3w : w.grownBy w3 (some b) := (hg.trans (hal _)).trans hg3
             have hown3 := own_far (hown.alloc _) (farT_set _ (hMr.alloc _)) hg3
             have hg3s := hg3w.size)
          | (at_builtin
             refine wpList_append_any _ rfl _ _ _ rfl w.heap.size 9 i0 _ 1 16 Tryz.underlying36 hi0 hz0 hz1 hz2 rfl (by omega) _ o.length (tcs o) rfl (own_below hown3 (alloc_b (.cells #[.string x] 9))) _ _ 1 _ _ rfl (Reads.new1 _ 9 (.string x)) (one_str _) (by unfold maxLen; omega) (by omega) (by simp; omega) ?_
             intro v4 w4 hown4 hg4 _
             have hg4w : w.grownBy w4 (some b) := (hg3w.trans ((World.grownBy_alloc _ _ none).but (some b))).andThen hg4 (fun j hj => .inl (hown3.lt j hj).1)
             have hM4 := (hM3.alloc (.cells #[.string x] 9)).kept hg4 (row_ne_low hown3 hblt)))
        have ho4 : newF acc (l.take (i + 1)) = o ++ [x] := Hst.out
        rw [← Hput.out] at hM4
        have hM5 : OwnF w4 b (acc ++ (o ++ [x])) := by
          have e : (acc ++ (o ++ [x])).length = (acc ++ o).length + 1 := by simp only [List.length_append, List.length_singleton]; omega
          unfold OwnF
          rw [e, ← List.append_assoc]
          exact hM4
        go_roundw
        case rel => exact ⟨i + 1, o ++ [x], by omega, by go_num, hide ho4.symm, by simp; omega, by rw [tcs_append, List.length_append]; exact hown4, hM5, hg4w⟩
        case measure => simp [RowKit.intOf]; omega
    · have hi2 : i = n := by omega
      subst hi2
      have ho2 := ho.out
      rw [List.take_of_length_le (by rw [Hlen.out]; exact Nat.le_refl _)] at ho2
      subst ho2
      clear h hl hM
      go_wp2
      go_ret
      exact ⟨_, rfl, hown, hMr, hg⟩
end Go.Proofs.YtmoeilkaadnnoaaGreatDoor.Reach
