/-
  Some texts of this claim, one behind the other: PlainSort. What each proves, and its condition, stands at its head.
-/
import Derived.Test.YtmoeilkaadnnoaaGreatY18
import Derived.Test.YtmoeilkaadnnoaaGreatY26
import Derived.Test.YtmoeilkaadnnoaaGreatY22
import Derived.Test.YtmoeilkaadnnoaaGreatChecked
import Derived.Shelf.Small.Strs
import Derived.Shelf.SlSortCmp.WholeK
import Derived.Shelf.SlSortCmp.NoneTotal
/-
  The library's SortFunc at picks, laid at this program, with the search's own closure: a row of picks ends as a permutation of what it was, its names rising. Condition: fewer than 2^62 picks.
-/
namespace Go.Proofs.YtmoeilkaadnnoaaGreat.Plain
open Go Go.Shelf Go.RowKit Go.Lib Go.Sort Go.Proofs.YtmoeilkaadnnoaaGreat.Need Go.Proofs.YtmoeilkaadnnoaaGreat.Mani Go.Proofs.YtmoeilkaadnnoaaGreat.Pick
set_option linter.unusedVariables false
set_option linter.unusedSimpArgs false
def sortRenP : Ren := ⟨fun | 6 => 98 | 14 => 124 | 15 => 125 | 20 => 134 | 21 => 135 | 22 => 136 | 23 => 137 | 24 => 138 | 25 => 139 | 26 => 140 | 27 => 141 | 28 => 142 | 29 => 143 | 46 => 147 | 47 => 148 | 48 => 149 | 49 => 150 | 50 => 151 | 57 => 152 | n => n, fun | 0 => 0 | 3 => 3 | 4 => 4 | 5 => 5 | 9 => 9 | 22 => 27 | 24 => 63 | 25 => 164 | 39 => 184 | 45 => 195 | 46 => 196 | 50 => 89 | 53 => 202 | 55 => 204 | 66 => 208 | 70 => 212 | 76 => 214 | 77 => 123 | n => n, fun n => n⟩
theorem sortLaysP : SlLaysF0.n6 Tryz.prog sortRenP := {
  mixed := by kernel_rfl
  f6 := ⟨ "slices.SortFunc[[]comprador/api.Pick,comprador/api.Pick]", by decide, Tryz.func98.trans (congrArg some (by kernel_rfl))⟩
  f14 := ⟨ "slices.pdqsortCmpFunc[comprador/api.Pick]", by decide, Tryz.func124.trans (congrArg some (by kernel_rfl))⟩
  f15 := Tryz.func125.trans (congrArg some (by kernel_rfl))
  f20 := ⟨ "slices.insertionSortCmpFunc[comprador/api.Pick]", by decide, Tryz.func134.trans (congrArg some (by kernel_rfl))⟩
  f21 := ⟨ "slices.heapSortCmpFunc[comprador/api.Pick]", by decide, Tryz.func135.trans (congrArg some (by kernel_rfl))⟩
  f22 := ⟨ "slices.breakPatternsCmpFunc[comprador/api.Pick]", by decide, Tryz.func136.trans (congrArg some (by kernel_rfl))⟩
  f23 := ⟨ "slices.choosePivotCmpFunc[comprador/api.Pick]", by decide, Tryz.func137.trans (congrArg some (by kernel_rfl))⟩
  f24 := ⟨ "slices.reverseRangeCmpFunc[comprador/api.Pick]", by decide, Tryz.func138.trans (congrArg some (by kernel_rfl))⟩
  f25 := ⟨ "slices.partialInsertionSortCmpFunc[comprador/api.Pick]", by decide, Tryz.func139.trans (congrArg some (by kernel_rfl))⟩
  f26 := ⟨ "slices.partitionEqualCmpFunc[comprador/api.Pick]", by decide, Tryz.func140.trans (congrArg some (by kernel_rfl))⟩
  f27 := ⟨ "slices.partitionCmpFunc[comprador/api.Pick]", by decide, Tryz.func141.trans (congrArg some (by kernel_rfl))⟩
  f28 := Tryz.func142.trans (congrArg some (by kernel_rfl))
  f29 := Tryz.func143.trans (congrArg some (by kernel_rfl))
  f46 := ⟨ "slices.siftDownCmpFunc[comprador/api.Pick]", by decide, Tryz.func147.trans (congrArg some (by kernel_rfl))⟩
  f47 := Tryz.func148.trans (congrArg some (by kernel_rfl))
  f48 := Tryz.func149.trans (congrArg some (by kernel_rfl))
  f49 := ⟨ "slices.medianAdjacentCmpFunc[comprador/api.Pick]", by decide, Tryz.func150.trans (congrArg some (by kernel_rfl))⟩
  f50 := ⟨ "slices.medianCmpFunc[comprador/api.Pick]", by decide, Tryz.func151.trans (congrArg some (by kernel_rfl))⟩
  f57 := ⟨ "slices.order2CmpFunc[comprador/api.Pick]", by decide, Tryz.func152.trans (congrArg some (by kernel_rfl))⟩
  t0 := Tryz.underlying0
  a0 := Tryz.isAgg0
  z0 := Tryz.sizeOf0
  v0 := Tryz.zeroValue0
  t3 := Tryz.underlying3
  a3 := Tryz.isAgg3
  z3 := Tryz.sizeOf3
  v3 := Tryz.zeroValue3
  t4 := Tryz.underlying4
  a4 := Tryz.isAgg4
  z4 := Tryz.sizeOf4
  v4 := Tryz.zeroValue4
  t5 := Tryz.underlying5
  a5 := Tryz.isAgg5
  z5 := Tryz.sizeOf5
  v5 := Tryz.zeroValue5
  t9 := Tryz.underlying9
  a9 := Tryz.isAgg9
  z9 := Tryz.sizeOf9
  v9 := Tryz.zeroValue9
  t22 := Tryz.underlying27
  a22 := Tryz.isAgg27
  z22 := Tryz.sizeOf27
  v22 := Tryz.zeroValue27
  t25 := Tryz.underlying164
  a25 := Tryz.isAgg164
  z25 := Tryz.sizeOf164
  v25 := Tryz.zeroValue164
  t39 := Tryz.underlying184
  a39 := Tryz.isAgg184
  z39 := Tryz.sizeOf184
  v39 := Tryz.zeroValue184
  t45 := Tryz.underlying195
  a45 := Tryz.isAgg195
  z45 := Tryz.sizeOf195
  v45 := Tryz.zeroValue195
  t46 := Tryz.underlying196
  a46 := Tryz.isAgg196
  z46 := Tryz.sizeOf196
  v46 := Tryz.zeroValue196
  t50 := Tryz.underlying89
  a50 := Tryz.isAgg89
  z50 := Tryz.sizeOf89
  v50 := Tryz.zeroValue89
  t53 := Tryz.underlying202
  a53 := Tryz.isAgg202
  z53 := Tryz.sizeOf202
  v53 := Tryz.zeroValue202
  t55 := Tryz.underlying204
  a55 := Tryz.isAgg204
  z55 := Tryz.sizeOf204
  v55 := Tryz.zeroValue204
  t66 := Tryz.underlying208
  a66 := Tryz.isAgg208
  z66 := Tryz.sizeOf208
  v66 := Tryz.zeroValue208
  t70 := Tryz.underlying212
  a70 := Tryz.isAgg212
  z70 := Tryz.sizeOf212
  v70 := Tryz.zeroValue212
  t76 := Tryz.underlying214
  a76 := Tryz.isAgg214
  z76 := Tryz.sizeOf214
  v76 := Tryz.zeroValue214
  t77 := Tryz.underlying123
  a77 := Tryz.isAgg123
  z77 := Tryz.sizeOf123
  v77 := Tryz.zeroValue123 }
def renCp : Ren := ⟨fun | 106 => 100 | 213 => 126 | 265 => 144 | n => n, fun | 3 => 3 | 9 => 9 | n => n, fun n => n⟩
theorem laysCp : Lays.n106 Tryz.prog renCp := {
  mixed := by kernel_rfl
  f106 := Tryz.func100.trans (congrArg some (by kernel_rfl))
  f213 := Tryz.func126.trans (congrArg some (by kernel_rfl))
  f265 := Tryz.func144.trans (congrArg some (by kernel_rfl))
  t3 := Tryz.underlying3
  a3 := Tryz.isAgg3
  z3 := Tryz.sizeOf3
  v3 := Tryz.zeroValue3
  t9 := Tryz.underlying9
  a9 := Tryz.isAgg9
  z9 := Tryz.sizeOf9
  v9 := Tryz.zeroValue9 }
def encP (x : Pk) : List Value := [.string x.1, .int .i64 x.2]
def cmpP (x y : Pk) : Int := Lib.compareBytes x.1.data.toList y.1.data.toList
set_option maxHeartbeats 1000000 in
theorem closureP_any (x y : Pk) (W : World) : Calls Tryz.prog 99 #[.agg #[.string x.1, .int .i64 x.2], .agg #[.string y.1, .int .i64 y.2]] W fun e w' => e = .returned (.int .i64 (cmpP x y)) ∧ ∃ q os', w' = grow (W.drewN q) os' := by
  have hcon := fun W' => Any.strings_Compare laysCp x.1 y.1 W'
  change ∀ W', Calls Tryz.prog 100 _ _ _ at hcon
  unfold cmpP
  generalize Lib.compareBytes x.1.data.toList y.1.data.toList = r at hcon ⊢
  go_enter Tryz.func99, Tryz.ntmps99
  go_wp2_with (go_at_call 100; refine (hcon _).mono ?_; rintro e w' ⟨rfl, rfl⟩)
  go_ret
  exact ⟨rfl, 0, _, by rw [alloc_eq_grow, alloc_eq_grow, grow_grow]; rfl⟩
theorem ltName (x y : Pk) : ltOf cmpP x y = nlt x.1 y.1 := by
  unfold ltOf cmpP
  rcases Pick.nlt_cases x.1 y.1 with h | h | h
  · rw [show Lib.compareBytes x.1.data.toList y.1.data.toList = -1 from Depot.cmp_lt (bytes_lt h), h]; rfl
  · rw [h, Depot.cmp_self, nlt_self]; rfl
  · rw [show Lib.compareBytes x.1.data.toList y.1.data.toList = 1 from Depot.cmp_gt (bytes_lt h)]
    cases e : nlt x.1 y.1 with
    | false => rfl
    | true =>
      have := nlt_trans e h
      rw [nlt_self] at this
      cases this
theorem swoName : SWO (ltOf cmpP) where
  irrefl x := by rw [ltName]; exact nlt_self _
  trans x y z h1 h2 := by rw [ltName] at *; exact nlt_trans h1 h2
  ntrans x y z h1 h2 := by
    rw [ltName] at *
    cases e : nlt x.1 z.1 with
    | false => rfl
    | true =>
      rcases Pick.nlt_cases x.1 y.1 with h | h | h
      · rw [h] at h1; cases h1
      · rw [h] at e; rw [e] at h2; cases h2
      · rw [nlt_trans h e] at h2; cases h2
theorem sortP_at (blk off cap : Nat) (d : Array Pk) (w : World) (hH : HoldsK encP 2 w blk off d) (hblk : blk < w.heap.size) (hsz : d.size < 4611686018427387904) :
    Calls Tryz.prog 98 #[.slice (some ⟨blk, off, none⟩) d.size cap, .func (.func 99) #[] #[]] w fun e w' =>
      e = .returned (.tuple #[]) ∧ ∃ d' n os, PermIn 0 d.size d d' ∧ SortedIn (ltOf cmpP) 0 d.size d' ∧ w' = sortWorldK encP 2 w blk off n d' os := by
  have eg : ∀ args w, (callFunc 99 args).run Tryz.prog w = .ok (.enter 99 args) w := enters_of Tryz.func99 (by kernel_rfl) rfl
  exact AnyQ.slices_SortFunc sortLaysP 2 Tryz.isAgg63 Tryz.sizeOf63 encP (fun _ => rfl) (fun x v hv => by simp [encP] at hv; rcases hv with rfl | rfl <;> rfl) cmpP swoName 99 #[] blk off cap d w eg (fun _ _ _ _ x y => closureP_any x y _) hH hblk hsz
theorem flat_pks (d : Array Pk) : (Sort.flatK encP 2 d).toList = pks d.toList := by
  apply List.ext_getElem?
  intro t
  by_cases ht : t < d.size * 2
  · have hs : t < (Sort.flatK encP 2 d).size := by simpa using ht
    have e1 : (Sort.flatK encP 2 d).toList[t]? = some ((Sort.flatK encP 2 d)[t]!) := by
      rw [Array.getElem?_toList, getElem!_pos _ t hs, Array.getElem?_eq_getElem hs]
    rw [e1, Sort.get_flatK encP 2 d t ht]
    have hi : t / 2 < d.size := by omega
    have hg : d.toList[t / 2]? = some d[t / 2] := by rw [Array.getElem?_toList, Array.getElem?_eq_getElem hi]
    have hd : d[t / 2]! = d[t / 2] := getElem!_pos d _ hi
    obtain ⟨s1, s2⟩ := pks_get d.toList (t / 2) _ hg
    rw [hd]
    rcases Nat.mod_two_eq_zero_or_one t with h | h
    · have e2 : t = t / 2 * 2 := by omega
      rw [h]
      conv => rhs; rw [e2, s1]
      rfl
    · have e2 : t = t / 2 * 2 + 1 := by omega
      rw [h]
      conv => rhs; rw [e2, s2]
      rfl
  · rw [List.getElem?_eq_none (by simp; omega), List.getElem?_eq_none (by rw [pks_length, Array.length_toList]; omega)]
theorem block_sorted {w : World} {g m : Nat} {cur : Array Value} {e : TypeId} {d : Array Pk} {os : Array Obj} (hg : w.heap[g]? = some (.cells cur e (0, 0))) :
    (Sort.grow (Sort.putRowK encP 2 (Sort.ahead w m) g 0 d) os).heap[g]? = some (.cells (Sort.putCells id 0 (Sort.flatK encP 2 d) cur) e (0, 0)) := by
  have hlt : g < w.heap.size := (Array.getElem?_eq_some_iff.1 hg).1
  rw [Sort.heap_grow_old _ _ (by unfold Sort.putRowK; rw [Sort.size_putRow]; exact hlt)]
  unfold Sort.putRowK Sort.putRow Sort.mapBlock
  simp only [Array.getElem?_modify, Sort.heap_ahead, if_true, hg, Option.map_some, Sort.onCells]
theorem block_other {w : World} {g m k : Nat} {d : Array Pk} {os : Array Obj} (hk : k < w.heap.size) (hne : k ≠ g) :
    (Sort.grow (Sort.putRowK encP 2 (Sort.ahead w m) g 0 d) os).heap[k]? = w.heap[k]? := by
  rw [Sort.heap_grow_old _ _ (by unfold Sort.putRowK; rw [Sort.size_putRow]; exact hk)]
  unfold Sort.putRowK Sort.putRow Sort.mapBlock
  simp only [Array.getElem?_modify, Sort.heap_ahead]
  rw [if_neg (fun h => hne h.symm)]
theorem take_put (F cur : Array Value) (n : Nat) (hF : F.size = n) (hc : n ≤ cur.size) : (Sort.putCells id 0 F cur).toList.take n = F.toList := by
  apply List.ext_getElem?
  intro t
  by_cases ht : t < n
  · rw [List.getElem?_take_of_lt ht, Array.getElem?_toList, Array.getElem?_toList]
    unfold Sort.putCells
    rw [Array.getElem?_mapIdx, Array.getElem?_eq_getElem (show t < cur.size by omega), Array.getElem?_eq_getElem (show t < F.size by omega)]
    simp only [Option.map_some, Option.some.injEq]
    rw [if_pos ⟨Nat.zero_le _, by omega⟩]
    simp only [id, Nat.sub_zero]
    exact getElem!_pos F t (by omega)
  · rw [List.getElem?_eq_none (by simp; omega), List.getElem?_eq_none (by simp; omega)]
set_option maxHeartbeats 1000000 in
theorem sortP_new {B n c : Nat} {A : Option Addr} {l : List Pk} (w : World) (h : NewP w B A n c l) (hB : B ≤ w.heap.size) (hn : n ≤ 1000000001) :
    Calls Tryz.prog 98 #[.slice A n c, .func (.func 99) #[] #[]] w fun e w' =>
      e = .returned (.tuple #[]) ∧ ∃ d : List Pk, d.Perm l ∧ d.length = l.length ∧ d.Pairwise (fun x y => nlt y.1 x.1 = false) ∧ NewP w' B A n c d ∧ Below B w w' := by
  rcases Nat.eq_zero_or_pos n with h0 | h0
  · subst h0
    have hl : l = [] := List.eq_nil_of_length_eq_zero h.1.symm
    subst hl
    refine (AnyF.slices_SortFunc_none sortLaysP A c _ w).mono ?_
    rintro e w' ⟨rfl, rfl⟩
    exact ⟨rfl, [], List.Perm.refl _, rfl, List.Pairwise.nil, h, Below.refl _ _⟩
  · have hlen := h.1
    have h0' := h
    obtain ⟨-, h2, h3, -⟩ := h0'
    rcases h3.2 with ⟨_, hn0⟩ | ⟨g, cap, cur, hv, hBg, hg, hnc, hm, hcs, ht⟩
    · omega
    injection hv with e1 e2 e3
    subst e1 e3
    have hglt : g < w.heap.size := (Array.getElem?_eq_some_iff.1 hg).1
    have hb : Blk w g 63 cur := hg
    have hsz : l.toArray.size = n := by simp [hlen]
    have hH : Sort.HoldsK encP 2 w g 0 l.toArray := by
      intro j hj
      have hj2 : j < n * 2 := by simpa [hlen] using hj
      rw [Nat.zero_add]
      refine ⟨?_, hb.frozen j⟩
      rw [hb.cell]
      have e1 : (pks l)[j]? = cur[j]? := by rw [← ht, List.getElem?_take_of_lt hj2, Array.getElem?_toList]
      have e2 := flat_pks l.toArray
      have e3 : (Sort.flatK encP 2 l.toArray).toList[j]? = some ((Sort.flatK encP 2 l.toArray)[j]!) := by
        rw [Array.getElem?_toList, getElem!_pos _ j hj, Array.getElem?_eq_getElem hj]
      rw [e2] at e3
      rw [← e1]
      exact e3
    have hcon := sortP_at g 0 c l.toArray w hH hglt (by rw [hsz]; omega)
    rw [hsz] at hcon
    refine hcon.mono ?_
    rintro e w' ⟨rfl, d', m, os, hp, hso, rfl⟩
    obtain ⟨hps, _, hpp⟩ := hp
    rw [hsz] at hps
    have hd : d'.toList.Perm l := by
      have x1 : d'.extract 0 n = d' := by rw [← hps]; exact Array.extract_size
      have x2 : l.toArray.extract 0 n = l.toArray := by rw [← hsz]; exact Array.extract_size
      rw [x1, x2] at hpp
      exact hpp
    have hown : (sortWorldK encP 2 w g 0 m d' os).ownsRow B 63 2 (.slice (some ⟨g, 0, none⟩) n c) n (pks d'.toList) := by
      refine ⟨by rw [pks_length, Array.length_toList, hps], .inr ⟨g, c, _, rfl, hBg, block_sorted hg, hnc, hm, by simpa [Sort.putCells] using hcs, ?_⟩⟩
      rw [← flat_pks]
      exact take_put _ _ _ (by simp [hps]) (by omega)
    obtain ⟨A', c', e', hN⟩ := newP_of_own hown
    injection e' with e1' _ e3'
    subst e1' e3'
    refine ⟨rfl, d'.toList, hd, by rw [Array.length_toList, hps, hlen], ?_, hN, ?_⟩
    · rw [List.pairwise_iff_getElem]
      intro i j hi hj hij
      have hi' : i < d'.size := by simpa using hi
      have hj' : j < d'.size := by simpa using hj
      have := hso i j (Nat.zero_le _) hij (by omega)
      rw [ltName, getElem!_pos d' j hj', getElem!_pos d' i hi'] at this
      simpa using this
    · refine ⟨rfl, rfl, rfl, ?_, fun k hk => ?_⟩
      · unfold sortWorldK
        rw [Sort.size_grow]; unfold Sort.putRowK; rw [Sort.size_putRow]
        exact Nat.le_add_right _ _
      · exact block_other (by omega) (by omega)
end Go.Proofs.YtmoeilkaadnnoaaGreat.Plain
