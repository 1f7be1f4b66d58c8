/-
  Some texts of this claim, one behind the other: ManiNames, ReachFresh, FitFresh. What each proves, and its condition, stands at its head.
-/
import Derived.Test.YtdmejcfnolhplaaGreatDoorZC38
import Derived.Test.YtdmejcfnolhplaaGreatDoorZC19
import Derived.Test.YtdmejcfnolhplaaGreatDoorZC16
import Derived.Test.YtdmejcfnolhplaaGreatDoorZC18
import Derived.Test.YtdmejcfnolhplaaGreatDoorZC12
import Derived.Maps.OwnSet
import Derived.Test.YtdmejcfnolhplaaGreatDoorZC25
import Derived.Test.YtdmejcfnolhplaaGreatDoorZC32
/-
  The contract of Names: the names that a manifest's releases need, by way of a map and its sorted keys. Condition: lists of a length that may be walked.
-/
namespace Go.Proofs.YtdmejcfnolhplaaGreatDoor.Mani
open Go Go.RowKit Go.Lib Go.Proofs.YtdmejcfnolhplaaGreatDoor.Span Go.Proofs.YtdmejcfnolhplaaGreatDoor.Need
set_option linter.unusedVariables false
theorem key_of (x : ByteArray) (h : x.size ≤ maxLen) : keyOf Tryz.prog 9 (.string x) = some (.string (bytesOf x)) := by
  have hu := Tryz.underlying9
  simp [keyOf, hu, mapKey, bytesOf]
  exact h
theorem texts_of (L : List ByteArray) : (L.map bytesOf).map encStr = tcs L := by
  rw [List.map_map]
  unfold tcs
  refine List.map_congr_left fun x _ => ?_
  simp [encStr, bytesOf]
end Go.Proofs.YtdmejcfnolhplaaGreatDoor.Mani
/-
  Contracts of the program's asked and fresh: the names of needs; those of some names that were not found yet, which are found from then on. Condition: lists and names of a length that may be walked.
-/
namespace Go.Proofs.YtdmejcfnolhplaaGreatDoor.Reach
open Go Go.RowKit Go.Lib Go.Proofs.YtdmejcfnolhplaaGreatDoor.Span Go.Proofs.YtdmejcfnolhplaaGreatDoor.Need Go.Proofs.YtdmejcfnolhplaaGreatDoor.Mani Go.Proofs.YtdmejcfnolhplaaGreatDoor.Wire Go.Proofs.YtdmejcfnolhplaaGreatDoor.Depot Go.Proofs.YtdmejcfnolhplaaGreatDoor.Index
set_option linter.unusedVariables false
theorem zero_unit (w : World) : (zeroValue 99).run Tryz.prog w = .ok (.agg #[]) w := by kernel_rfl
theorem has_of_in {acc : List ByteArray} {x : ByteArray} (h : x ∈ acc) : Maps.has (setN acc) (.string (bytesOf x)) = true := (has_setN acc _).2 ⟨x, h, rfl⟩
theorem has_of_not {acc : List ByteArray} {x : ByteArray} (h : x ∉ acc) : Maps.has (setN acc) (.string (bytesOf x)) = false := by
  cases g : Maps.has (setN acc) (.string (bytesOf x)) with
  | false => rfl
  | true =>
    obtain ⟨y, hy, e⟩ := (has_setN acc _).1 g
    exact absurd (bytesOf_inj e ▸ hy) h
abbrev OwnF (w : World) (b : Nat) (acc : List ByteArray) : Prop := w.ownsMap Tryz.prog 9 (unitElem (H := Unit)) b acc.length (setN acc)
theorem ne_map {w : World} {P : Program} {k : TypeId} {R : Value → Option (DataW Unit × List MemPlace)} {b n : Nat} {D : DataW Unit} {p : Addr} {u : Value} (hM : w.ownsMap P k R b n D) (hc : w.cell? p = some u) : p.block ≠ b := by
  rintro rfl
  obtain ⟨es, clock, hb, _⟩ := hM
  simp [World.cell?, hb] at hc
theorem farT_set {w : World} {P : Program} {k : TypeId} {R : Value → Option (DataW Unit × List MemPlace)} {b n : Nat} {D : DataW Unit} (T : TypeId) (h : w.ownsMap P k R b n D) : FarT w T (some b) := by
  obtain ⟨es, clock, hb, _⟩ := h
  intro b' cur m h e
  injection e with e
  subst e
  rw [hb] at h
  cases h
def Freshes (w : World) (b : Nat) (acc l : List ByteArray) (e : Ending) (w' : World) : Prop :=
  ∃ v, e = .returned v ∧ w'.ownsRow w.heap.size 9 1 v (newF acc l).length (tcs (newF acc l)) ∧ OwnF w' b (acc ++ newF acc l) ∧ w.grownBy w' (some b)
end Go.Proofs.YtdmejcfnolhplaaGreatDoor.Reach
/-
  The contract of the program's fresh: the names of those needs that were not found yet, which are found from then on. Condition: lists and names of a length that may be walked.
-/
namespace Go.Proofs.YtdmejcfnolhplaaGreatDoor.Fit
open Go Go.RowKit Go.Lib Go.Proofs.YtdmejcfnolhplaaGreatDoor.Span Go.Proofs.YtdmejcfnolhplaaGreatDoor.Need Go.Proofs.YtdmejcfnolhplaaGreatDoor.Mani Go.Proofs.YtdmejcfnolhplaaGreatDoor.Wire Go.Proofs.YtdmejcfnolhplaaGreatDoor.Depot Go.Proofs.YtdmejcfnolhplaaGreatDoor.Index Go.Proofs.YtdmejcfnolhplaaGreatDoor.Reach Go.Proofs.YtdmejcfnolhplaaGreatDoor.Pick
set_option linter.unusedVariables false
theorem names_at {s : List Nd} {i : Nat} {q : Nd} (h : s[i]? = some q) : (namesS s)[i]? = some q.1 := by
  unfold namesS
  rw [List.getElem?_map, h]; rfl
set_option maxHeartbeats 4000000 in
set_option maxRecDepth 100000 in
theorem freshF_any (acc : List ByteArray) (s : List Nd) (b : Nat) (A : Option Addr) (n c : Nat) (w : World) (hM : OwnF w b acc) (h : NdOn w A n s) (hn : n ≤ 1000000) (ha : acc.length ≤ 1000000) (hl : ∀ q ∈ s, q.1.size ≤ 1000000000) :
    Calls Tryz.prog 95 #[.map (some b), .slice A n c] w (Freshes w b acc (namesS s)) := by
  unfold Freshes
  obtain ⟨i0, hi0, hz0, hz1, hz2⟩ := info_parts info_str
  have Hlen := hide h.len
  have hblt := hM.lt
  have hz := zero_unit
  go_enter Tryz.func95, Tryz.ntmps95
  go_wp2
  go_loopw [5, 13] (fun u v wr => ∃ (i : Nat) (o : List ByteArray), i ≤ n ∧ v = .int .i64 (i : Int) ∧ Hid (o = newF acc ((namesS s).take i)) ∧ o.length ≤ i ∧ wr.ownsRow w.heap.size 9 1 u o.length (tcs o) ∧ OwnF wr b (acc ++ o) ∧ w.grownBy wr (some b)) (fun _ v _ => n - (RowKit.intOf v).toNat)
  case atStart => exact ⟨0, [], by omega, rfl, hide rfl, by simp, World.ownsRow_nil _ _ _ _, by simpa using hM, World.grownBy.refl _ _⟩
  case round =>
    obtain ⟨i, o, hi, rfl, ho, hol, hown, hMr, hg⟩ := hrel
    have hgs := hg.size
    obtain ⟨Ax, cx, rfl, hcx, hrd⟩ := own_texts hown
    have hlo : (acc ++ o).length ≤ 3000000 := by rw [List.length_append]; omega
    by_cases hlt : i < n
    · obtain ⟨ad, q, A', n', c', rfl, had, hx, hs, c1, c2⟩ := NdIn.at_ h hlt
      have hnb := ne_map hM c1
      rw [block_of_add] at hnb
      have hbk := hg.block _ had (by intro e; injection e with e; exact hnb e)
      have hsx := hl q (List.mem_of_getElem? hx)
      have hst := newF_take (acc := acc) (names_at hx)
      rw [← ho.out] at hst
      obtain ⟨x, s'⟩ := q
      simp only [] at c1 c2 hsx hst
      have d1 : wr.cell? (ad.add (i * 2)) = some (.string x) := (World.cell?_of_block (by rw [block_of_add]; exact hbk)).trans c1
      have d2 : wr.cell? ⟨(ad.add (i * 2)).block, (ad.add (i * 2)).off + 1, none⟩ = some (.slice A' n' c') := (World.cell?_of_block (by show wr.heap[(ad.add (i * 2)).block]? = w.heap[(ad.add (i * 2)).block]?; rw [block_of_add]; exact hbk)).trans c2
      have hkey := hide (key_of x (by unfold maxLen; omega))
      have hrl := hide (row_ne_low hown hblt)
      have HC := hide (fun wx => Label.clone_any x wx hsx)
      have k0 : ∀ o o', ((wr.alloc (.cells #[.string x, .slice A' n' c'] o)).alloc o').cell? ⟨wr.heap.size, 0, none⟩ = some (.string x) := fun o o' => (((Blk.new wr o #[.string x, .slice A' n' c']).alloc o').cell 0).trans rfl
      have hga := hide (fun (a a' : Obj) => (hg.trans ((World.grownBy_alloc wr a none).but (some b))).trans ((World.grownBy_alloc (wr.alloc a) a' none).but (some b)))
      have hba := hide (fun (a a' : Obj) => (Span.alloc_b (w := wr) a).alloc (by simp) a')
      clear hrd hx h hl hM hnb hs c1 c2 hbk had
      by_cases hin : x ∈ acc ++ o
      · rw [if_pos hin] at hst
        have hh := has_of_in hin
        have Hst := hide hst
        clear hst hin
        go_wp2_with (first
          | (at_lookup
             refine wpList_lookup_own_unit _ rfl _ _ 161 rfl 9 99 (Maps.string_keyed Tryz.underlying9) Tryz.underlying161 (hz _) b (acc ++ o).length (setN (acc ++ o)) rfl (hMr.alloc _) _ _ rfl hkey.out ?_
             rw [hh]))
        go_roundw
        case rel => exact ⟨i + 1, o, by omega, by go_num, hide Hst.out.symm, by omega, (hown.alloc _).alloc _, (hMr.alloc _).alloc _, hga.out _ _⟩
        case measure => simp [RowKit.intOf]; omega
      · rw [if_neg hin] at hst
        have hh := has_of_not hin
        have Hst := hide hst
        have hput := setN_snoc (acc ++ o) x
        have Hput := hide hput
        clear hst hin hput
        go_wp2_with (first
          | (at_lookup
             refine wpList_lookup_own_unit _ rfl _ _ 161 rfl 9 99 (Maps.string_keyed Tryz.underlying9) Tryz.underlying161 (hz _) b (acc ++ o).length (setN (acc ++ o)) rfl (hMr.alloc _) _ _ rfl hkey.out ?_
             rw [hh])
          | (go_at_call 27
             refine (HC.out _).mono ?_
             rintro e w2 ⟨rfl, hb2⟩
             have hbx := (hba.out (.cells #[.string x, .slice A' n' c'] 46) (.cells #[] 99)).trans (hb2.mono (by simp <;> omega))
             have hM2 := hMr.kept (only_of_below hbx none) (by simp)
             have hown2 := own_below hown hbx
             have hg2 : w.grownBy w2 (some b) := hg.trans ((only_of_below hbx none).but (some b)))
          | (at_mapUpdate
             refine wpList_mapUpdate_own _ rfl _ _ _ 161 rfl 9 99 (Maps.string_keyed Tryz.underlying9) Tryz.underlying161 unitElem b (acc ++ o).length (setN (acc ++ o)) rfl hM2 (by unfold maxLen; omega) _ _ (.string (bytesOf x)) rfl rfl hkey.out (.agg []) [] unitElem_mk ?_
             intro w3 hM3 hg3
             have hg3w : w.grownBy w3 (some b) := hg2.trans hg3
             have hown3 := own_far hown2 (farT_set _ hM2) hg3
             have hg3s := hg3w.size)
          | (at_builtin
             refine wpList_append_any _ rfl _ _ _ rfl w.heap.size 9 i0 _ 1 16 Tryz.underlying127 hi0 hz0 hz1 hz2 rfl (by omega) _ o.length (tcs o) rfl (own_below hown3 (alloc_b (.cells #[.string x] 9))) _ _ 1 _ _ rfl (Reads.new1 _ 9 (.string x)) (one_str _) (by unfold maxLen; omega) (by omega) (by simp; omega) ?_
             intro v4 w4 hown4 hg4 _
             have hg4w : w.grownBy w4 (some b) := (hg3w.trans ((World.grownBy_alloc _ _ none).but (some b))).andThen hg4 (fun j hj => .inl (hown3.lt j hj).1)
             have hM4 := (hM3.alloc (.cells #[.string x] 9)).kept hg4 (row_ne_low hown3 hblt)))
        have ho4 : newF acc ((namesS s).take (i + 1)) = o ++ [x] := Hst.out
        rw [← Hput.out] at hM4
        have hM5 : OwnF w4 b (acc ++ (o ++ [x])) := by
          have e : (acc ++ (o ++ [x])).length = (acc ++ o).length + 1 := by simp only [List.length_append, List.length_singleton]; omega
          unfold OwnF
          rw [e, ← List.append_assoc]
          exact hM4
        go_roundw
        case rel => exact ⟨i + 1, o ++ [x], by omega, by go_num, hide ho4.symm, by simp; omega, by rw [tcs_append, List.length_append]; exact hown4, hM5, hg4w⟩
        case measure => simp [RowKit.intOf]; omega
    · have hi2 : i = n := by omega
      subst hi2
      have ho2 := ho.out
      rw [List.take_of_length_le (by unfold namesS; rw [List.length_map, Hlen.out]; exact Nat.le_refl _)] at ho2
      subst ho2
      clear h hl hM
      go_wp2
      go_ret
      exact ⟨_, rfl, hown, hMr, hg⟩
end Go.Proofs.YtdmejcfnolhplaaGreatDoor.Fit
