/-
  Some texts of this claim, one behind the other: ManiKeys, ManiNames. What each proves, and its condition, stands at its head.
-/
import Derived.Test.YtmoeilkaadnnoaaGreatDoorZ17
import Derived.Shelf.SlIter.Nil
import Derived.Test.YtmoeilkaadnnoaaGreatDoorZ4
import Derived.Test.YtmoeilkaadnnoaaGreatDoorZ22
import Derived.Test.YtmoeilkaadnnoaaGreatDoorZ21
import Derived.Test.YtmoeilkaadnnoaaGreatDoorZ13
import Derived.Maps.OwnSet
/-
  The library's Keys and Sorted, laid at this program: what the sorted keys of a map of names are. Condition: fewer entries than a slice may have.
-/
namespace Go.Proofs.YtmoeilkaadnnoaaGreatDoor.Mani
open Go Go.RowKit Go.Maps Go.Sort Go.Shelf
set_option linter.unusedVariables false
def keysRen : Ren := ⟨fun | 7 => 56 | 10 => 82 | n => n, fun | 0 => 0 | 3 => 101 | 4 => 4 | 23 => 78 | 26 => 9 | 27 => 127 | 28 => 128 | 33 => 49 | n => n, fun n => n⟩
theorem keysLays : SlLaysZ.n7 Tryz.prog keysRen := {
  mixed := by kernel_rfl
  f7 := ⟨Tryz.f56.name, by decide, Tryz.func56.trans (congrArg some (by kernel_rfl))⟩
  f10 := ⟨Tryz.f82.name, by decide, Tryz.func82.trans (congrArg some (by kernel_rfl))⟩
  t0 := Tryz.underlying0
  a0 := Tryz.isAgg0
  z0 := Tryz.sizeOf0
  v0 := Tryz.zeroValue0
  t4 := Tryz.underlying4
  a4 := Tryz.isAgg4
  z4 := Tryz.sizeOf4
  v4 := Tryz.zeroValue4
  t23 := Tryz.underlying78
  a23 := Tryz.isAgg78
  z23 := Tryz.sizeOf78
  v23 := Tryz.zeroValue78
  t26 := Tryz.underlying9
  a26 := Tryz.isAgg9
  z26 := Tryz.sizeOf9
  v26 := Tryz.zeroValue9
  t27 := Tryz.underlying127
  a27 := Tryz.isAgg127
  z27 := Tryz.sizeOf127
  v27 := Tryz.zeroValue127
  t28 := Tryz.underlying128
  a28 := Tryz.isAgg128
  z28 := Tryz.sizeOf128
  v28 := Tryz.zeroValue128
  t33 := Tryz.underlying49
  a33 := Tryz.isAgg49
  z33 := Tryz.sizeOf49
  v33 := Tryz.zeroValue49 }
def sortedRen : Ren := ⟨fun | 6 => 55 | 8 => 81 | 9 => 38 | 11 => 122 | n => n, fun | 0 => 0 | 24 => 36 | 26 => 9 | 28 => 128 | 33 => 49 | n => n, fun n => n⟩
theorem sortedLays : SlLaysZ.n6 Tryz.prog sortedRen := {
  mixed := by kernel_rfl
  f6 := ⟨ "slices.Sorted[string]", by decide, Tryz.func55.trans (congrArg some (by kernel_rfl))⟩
  f8 := ⟨ "slices.Collect[string]", by decide, Tryz.func81.trans (congrArg some (by kernel_rfl))⟩
  f11 := ⟨ "slices.AppendSeq[[]string,string]", by decide, Tryz.func122.trans (congrArg some (by kernel_rfl))⟩
  t0 := Tryz.underlying0
  a0 := Tryz.isAgg0
  z0 := Tryz.sizeOf0
  v0 := Tryz.zeroValue0
  t24 := Tryz.underlying36
  a24 := Tryz.isAgg36
  z24 := Tryz.sizeOf36
  v24 := Tryz.zeroValue36
  t26 := Tryz.underlying9
  a26 := Tryz.isAgg9
  z26 := Tryz.sizeOf9
  v26 := Tryz.zeroValue9
  t28 := Tryz.underlying128
  a28 := Tryz.isAgg128
  z28 := Tryz.sizeOf128
  v28 := Tryz.zeroValue128
  i26 := by kernel_rfl }
theorem lays_sort (m : Nat) : AnyZ.SortsIn Tryz.prog sortedRen Fence.wide m :=
  ⟨fun blk off cap ss W hH hblk hsz => callsIn_wide.2 (AnyM.slices_Sort_string sortLays blk off cap ss W hH hblk hsz), fun p cap W => callsIn_wide.2 (AnyM.slices_Sort_string_none sortLays p cap W)⟩
theorem keys_any (b : Nat) (W : World) : Calls Tryz.prog 56 #[.map (some b)] W fun e w' => e = .returned (.func (.func 82) #[] #[.pointer (some ⟨W.heap.size, 0, none⟩)]) ∧ w' = W.alloc (.cells #[.map (some b)] 78) :=
  (callsIn_wide (n := 5)).1 (AnyZ.keys_in keysLays Fence.wide 5 trivial rfl (some b) W)
set_option maxHeartbeats 1000000 in
theorem sorted_any (b nn : Nat) (D0 : DataW Unit) (R : Value → Option (DataW Unit × List MemPlace)) (w : World) (hown : w.ownsMap Tryz.prog 9 R b nn D0) (hsz : Maps.size D0 ≤ 100000) :
    Calls Tryz.prog 55 #[.func (.func 82) #[] #[.pointer (some ⟨w.heap.size, 0, none⟩)]] (w.alloc (.cells #[.map (some b)] 78)) fun e w' =>
      ∃ (v : Value) (ss : List (List UInt8)), e = .returned v ∧ ss.Perm (strKeys D0) ∧ w'.ownsRow (w.heap.size + 1) 9 1 v ss.length ((ss.mergeSort (fun x y => decide (x ≤ y))).map encStr) ∧ Below (w.heap.size + 1) (w.alloc (.cells #[.map (some b)] 78)) w' := by
  have hlt := hown.lt
  have gives : SeqGives Fence.wide 2 Tryz.prog 82 #[.pointer (some ⟨w.heap.size, 0, none⟩)] encStr (fun ss => ss.Perm (strKeys D0)) (Maps.size D0) (w.alloc (.cells #[.map (some b)] 78)) := by
    refine AnyZ.keys_gives (ρ := keysRen) (R := R) { keysLays with } Fence.wide _ trivial rfl (by omega) w.heap.size b nn D0 _ (by simp) (by simp) ?_
    obtain ⟨es, clock, h1, h2, h3, h4⟩ := hown
    exact ⟨es, clock, (Below.heap_alloc _ _ b hlt).trans h1, h2, h3, h4⟩
  have key := (callsIn_wide (n := 5)).1 (AnyZ.sorted_in sortedLays Fence.wide 5 trivial trivial trivial trivial rfl (by omega) (lays_sort _) (enters_of Tryz.func38 (by kernel_rfl) rfl) 82 #[.pointer (some ⟨w.heap.size, 0, none⟩)] trivial (enters_of Tryz.func82 (by kernel_rfl) rfl) _ _ (by unfold maxLen; omega) (by omega) _ gives)
  refine key.mono ?_
  rintro e w' ⟨v, ss, he, hp, hrow, _, hb⟩
  rw [World.size_alloc] at hrow hb
  exact ⟨v, ss, he, hp, hrow, hb⟩
end Go.Proofs.YtmoeilkaadnnoaaGreatDoor.Mani
/-
  The contract of Names: the names that a manifest's releases need, by way of a map and its sorted keys. Condition: lists of a length that may be walked.
-/
namespace Go.Proofs.YtmoeilkaadnnoaaGreatDoor.Mani
open Go Go.RowKit Go.Lib Go.Proofs.YtmoeilkaadnnoaaGreatDoor.Span Go.Proofs.YtmoeilkaadnnoaaGreatDoor.Need
set_option linter.unusedVariables false
theorem key_of (x : ByteArray) (h : x.size ≤ maxLen) : keyOf Tryz.prog 9 (.string x) = some (.string (bytesOf x)) := by
  have hu := Tryz.underlying9
  simp [keyOf, hu, mapKey, bytesOf]
  exact h
theorem texts_of (L : List ByteArray) : (L.map bytesOf).map encStr = tcs L := by
  rw [List.map_map]
  unfold tcs
  refine List.map_congr_left fun x _ => ?_
  simp [encStr, bytesOf]
set_option maxHeartbeats 8000000 in
set_option maxRecDepth 100000 in
theorem namesM_any (nm : ByteArray) (l : List Rl) (A : Option Addr) (n c : Nat) (w : World) (h : RlOn w A n l) (hl : FineR l) :
    Calls Tryz.prog 37 #[.agg #[.string nm, .slice A n c]] w (MakesT w (foldN (allN l))) := by
  unfold MakesT
  have Hlen := hide h.len
  have hn : n ≤ 30 := by rw [← h.len]; exact hl.1
  have hal : ∀ i, (allN (l.take i)).length ≤ 1200 := fun i => by
    have h1 := allN_len (l := l.take i) fun q hq => (hl.2 q (List.mem_of_mem_take hq)).1
    rw [List.length_take] at h1
    have := hl.1
    omega
  have Hal := hide hal
  clear hal
  have hmm := @run_makeMap Tryz.prog
  have m0 := World.ownsMap_made (w.alloc (.cells #[.string nm, .slice A n c] 83)) Tryz.prog 9 (unitElem (H := Unit))
  rw [World.size_alloc] at m0
  go_enter Tryz.func37, Tryz.ntmps37
  go_wp2
  go_loopw [12] (fun v wr => ∃ (i : Nat), i ≤ n ∧ v = .int .i64 (i : Int) ∧ wr.ownsMap Tryz.prog 9 (unitElem (H := Unit)) (w.heap.size + 1) (allN (l.take i)).length (setN (allN (l.take i))) ∧ Below w.heap.size w wr) (fun v _ => n - (RowKit.intOf v).toNat)
  case atStart =>
    refine ⟨0, by omega, rfl, ?_, ?_⟩
    · first | exact m0 | exact m0.alloc _ | (simpa [allN, setN, Maps.setOf] using m0)
    · exact ((Below.refl _ _).alloc (Nat.le_refl _) _).alloc (by simp) _
  case round =>
    obtain ⟨i, hi, rfl, hM, hb⟩ := hrel
    have hbs := hb.size
    clear hmm m0
    by_cases hlt : i < n
    · obtain ⟨ad, q, A', n', c', rfl, hbl, hx, hs, c1, c2⟩ := RlIn.at_ (RlIn.below h hb) hlt
      have hq := hl.2 q (List.mem_of_getElem? hx)
      have hstep : allN (l.take (i + 1)) = allN (l.take i) ++ namesS q.2 := by rw [take_snoc' l i q hx, allN_snoc]
      obtain ⟨z, s⟩ := q
      simp only [] at c1 c2 hs hq hstep
      have hsl := hs.len
      have hn' : n' ≤ 40 := by have := hq.1; omega
      have hal := Hal.out i
      clear hx
      obtain ⟨W1, hW1⟩ : ∃ W1, W1 = wr := ⟨wr, rfl⟩
      subst hW1
      go_wp2
      go_loopw [19] (fun v wq => ∃ (k : Nat), k ≤ n' ∧ v = .int .i64 (k : Int) ∧ wq.ownsMap Tryz.prog 9 (unitElem (H := Unit)) (w.heap.size + 1) (allN (l.take i) ++ namesS (s.take k)).length (setN (allN (l.take i) ++ namesS (s.take k))) ∧ Below w.heap.size W1 wq) (fun v _ => n' - (RowKit.intOf v).toNat)
      case atStart =>
        refine ⟨0, by omega, rfl, ?_, (Below.refl _ _).alloc hbs _⟩
        have := hM.kept (only_of_below (alloc_b (.cells #[.int .i64 z, .slice A' n' c'] 125)) none) (by simp)
        simpa [namesS] using this
      case round =>
        obtain ⟨k, hk, rfl, hM', hbq⟩ := hrel
        have hbqs := hbq.size
        by_cases hkt : k < n'
        · obtain ⟨ad', y, B1, j1, e1, rfl, hbl', hy, _, d1, d2⟩ := NdIn.at_ (NdIn.below hs hbq) hkt
          have hyq := hq.2 y (List.mem_of_getElem? hy)
          have hst1 : setN (allN (l.take i) ++ namesS (s.take (k + 1))) = (setN (allN (l.take i) ++ namesS (s.take k))).put (.string (bytesOf y.1)) (.agg []) := by rw [namesS_take hy, ← List.append_assoc, setN_snoc]
          have hst2 : (allN (l.take i) ++ namesS (s.take (k + 1))).length = (allN (l.take i) ++ namesS (s.take k)).length + 1 := by rw [namesS_take hy, ← List.append_assoc, List.length_append]; rfl
          have hcnt : (allN (l.take i) ++ namesS (s.take k)).length ≤ 1240 := by
            rw [List.length_append]
            unfold namesS
            rw [List.length_map, List.length_take]
            omega
          obtain ⟨yn, ys⟩ := y
          simp only [] at d1 d2 hyq hst1 hst2
          have HK := hide (fun wx => Label.clone_any yn wx (by omega))
          have hkey := hide (key_of yn (by unfold maxLen; omega))
          have Hs1 := hide hst1
          have Hs2 := hide hst2
          clear hst1 hst2 hy h hl hs hM
          generalize (allN (l.take i) ++ namesS (s.take k)).length = cnt at *
          generalize setN (allN (l.take i) ++ namesS (s.take k)) = D at *
          go_wp2_with (first
            | (go_at_call 20
               refine (HK.out _).mono ?_
               rintro e w1 ⟨rfl, hb1⟩
               have hbx := (alloc_b (w := wr) (.cells #[.string yn, .slice B1 j1 e1] 48)).trans (hb1.mono (by simp))
               have hM1 := hM'.kept (only_of_below hbx none) (by simp)
               have hb2 := hbq.trans (hbx.mono (Nat.le_trans hbs hbqs))
               have hbs2 := hb2.size)
            | (at_mapUpdate
               refine wpList_mapUpdate_own _ rfl _ _ _ 78 rfl 9 101 (Maps.string_keyed Tryz.underlying9) Tryz.underlying78 unitElem (w.heap.size + 1) cnt D rfl hM1 (by unfold maxLen; omega) _ _ (.string (bytesOf yn)) rfl rfl hkey.out (.agg []) [] unitElem_mk ?_
               intro w3 hM3 hg3
               have hb3 : Below w.heap.size W1 w3 := hb2.grown hg3 (Nat.le_trans hbs hbs2) (fun k hk => by injection hk with hk; omega)))
          go_roundw
          case rel => exact ⟨k + 1, by omega, by go_num, by rw [Hs1.out, Hs2.out]; exact hM3, hb3⟩
          case measure => simp [RowKit.intOf]; omega
        · have hk2 : k = n' := by omega
          rw [List.take_of_length_le (show s.length ≤ k by omega), ← hstep] at hM'
          have hbw := hb.trans hbq
          clear h hl hs hM hstep
          go_wp2
          go_roundw
          case rel => exact ⟨i + 1, by omega, by go_num, hM', hbw⟩
          case measure => simp [RowKit.intOf]; omega
    · have hi2 : i = n := by omega
      subst hi2
      have hal := Hal.out i
      rw [List.take_of_length_le (by rw [Hlen.out]; exact Nat.le_refl _)] at hM hal
      have HK := hide (keys_any (w.heap.size + 1) wr)
      have HS := hide (sorted_any (w.heap.size + 1) _ (setN (allN l)) unitElem wr hM (by have := hM.size_le; omega))
      have HN := hide (fun ss hp => @sorted_names Tryz.prog 9 unitElem wr (w.heap.size + 1) _ (allN l) hM Tryz.underlying9 ss hp)
      clear h hl hM hal Hal
      go_wp2_with (first
        | (go_at_call 56
           refine HK.out.mono ?_
           rintro e w1 ⟨rfl, rfl⟩)
        | (go_at_call 55
           refine HS.out.mono ?_
           rintro e w2 ⟨v, ss, rfl, hp, hrow, hb2⟩))
      have e := HN.out ss hp
      rw [e, texts_of] at hrow
      obtain ⟨A9, c9, rfl, _, hT⟩ := own_texts hrow
      have hlenT := hT.len
      have hbw : Below w.heap.size w w2 := (hb.alloc hbs _).trans (hb2.mono (by omega))
      go_ret
      first | exact ⟨A9, ss.length, c9, rfl, hT, hbw⟩ | exact ⟨A9, ss.length, ⟨c9, rfl⟩, hT, hbw⟩
end Go.Proofs.YtmoeilkaadnnoaaGreatDoor.Mani
