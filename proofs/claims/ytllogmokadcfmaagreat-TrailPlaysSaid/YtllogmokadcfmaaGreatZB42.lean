/-
  Some texts of this claim, one behind the other: TrailSort. What each proves, and its condition, stands at its head.
-/
import Derived.Test.YtllogmokadcfmaaGreatZB26
import Derived.Test.YtllogmokadcfmaaGreatZB17
import Derived.Test.YtllogmokadcfmaaGreatZB18
import Derived.Test.YtllogmokadcfmaaGreatChecked
import Derived.Shelf.Abstract
import Derived.Shelf.SlSortCmp.WholeK
import Derived.Shelf.SlSortCmp.NoneTotal
/-
  The library's SortFunc at picks, laid at this program, with the trail's own closure: a row of picks ends as a permutation of what it was, its names rising. Condition: fewer than 2^62 picks.
-/
namespace Go.Proofs.YtllogmokadcfmaaGreat.Trail
open Go Go.Shelf Go.RowKit Go.Lib Go.Sort Go.Proofs.YtllogmokadcfmaaGreat.Need Go.Proofs.YtllogmokadcfmaaGreat.Mani Go.Proofs.YtllogmokadcfmaaGreat.Pick
set_option linter.unusedVariables false
set_option linter.unusedSimpArgs false
def sortRenP : Ren := ⟨fun | 6 => 44 | 14 => 74 | 15 => 75 | 20 => 91 | 21 => 92 | 22 => 93 | 23 => 94 | 24 => 95 | 25 => 96 | 26 => 97 | 27 => 98 | 28 => 99 | 29 => 100 | 46 => 108 | 47 => 109 | 48 => 110 | 49 => 111 | 50 => 112 | 57 => 124 | n => n, fun | 0 => 0 | 3 => 3 | 4 => 4 | 5 => 5 | 9 => 9 | 22 => 47 | 24 => 78 | 25 => 81 | 39 => 99 | 45 => 114 | 46 => 115 | 50 => 74 | 53 => 121 | 55 => 123 | 66 => 131 | 70 => 135 | 76 => 145 | 77 => 126 | n => n, fun n => n⟩
theorem sortLaysP : SlLaysF0.n6 Tryz.prog sortRenP := {
  mixed := by kernel_rfl
  f6 := ⟨ "slices.SortFunc[[]comprador/api.Pick,comprador/api.Pick]", by decide, Tryz.func44.trans (congrArg some (by kernel_rfl))⟩
  f14 := ⟨ "slices.pdqsortCmpFunc[comprador/api.Pick]", by decide, Tryz.func74.trans (congrArg some (by kernel_rfl))⟩
  f15 := Tryz.func75.trans (congrArg some (by kernel_rfl))
  f20 := ⟨ "slices.insertionSortCmpFunc[comprador/api.Pick]", by decide, Tryz.func91.trans (congrArg some (by kernel_rfl))⟩
  f21 := ⟨ "slices.heapSortCmpFunc[comprador/api.Pick]", by decide, Tryz.func92.trans (congrArg some (by kernel_rfl))⟩
  f22 := ⟨ "slices.breakPatternsCmpFunc[comprador/api.Pick]", by decide, Tryz.func93.trans (congrArg some (by kernel_rfl))⟩
  f23 := ⟨ "slices.choosePivotCmpFunc[comprador/api.Pick]", by decide, Tryz.func94.trans (congrArg some (by kernel_rfl))⟩
  f24 := ⟨ "slices.reverseRangeCmpFunc[comprador/api.Pick]", by decide, Tryz.func95.trans (congrArg some (by kernel_rfl))⟩
  f25 := ⟨ "slices.partialInsertionSortCmpFunc[comprador/api.Pick]", by decide, Tryz.func96.trans (congrArg some (by kernel_rfl))⟩
  f26 := ⟨ "slices.partitionEqualCmpFunc[comprador/api.Pick]", by decide, Tryz.func97.trans (congrArg some (by kernel_rfl))⟩
  f27 := ⟨ "slices.partitionCmpFunc[comprador/api.Pick]", by decide, Tryz.func98.trans (congrArg some (by kernel_rfl))⟩
  f28 := Tryz.func99.trans (congrArg some (by kernel_rfl))
  f29 := Tryz.func100.trans (congrArg some (by kernel_rfl))
  f46 := ⟨ "slices.siftDownCmpFunc[comprador/api.Pick]", by decide, Tryz.func108.trans (congrArg some (by kernel_rfl))⟩
  f47 := Tryz.func109.trans (congrArg some (by kernel_rfl))
  f48 := Tryz.func110.trans (congrArg some (by kernel_rfl))
  f49 := ⟨ "slices.medianAdjacentCmpFunc[comprador/api.Pick]", by decide, Tryz.func111.trans (congrArg some (by kernel_rfl))⟩
  f50 := ⟨ "slices.medianCmpFunc[comprador/api.Pick]", by decide, Tryz.func112.trans (congrArg some (by kernel_rfl))⟩
  f57 := ⟨ "slices.order2CmpFunc[comprador/api.Pick]", by decide, Tryz.func124.trans (congrArg some (by kernel_rfl))⟩
  t0 := Tryz.underlying0
  a0 := Tryz.isAgg0
  z0 := Tryz.sizeOf0
  v0 := Tryz.zeroValue0
  t3 := Tryz.underlying3
  a3 := Tryz.isAgg3
  z3 := Tryz.sizeOf3
  v3 := Tryz.zeroValue3
  t4 := Tryz.underlying4
  a4 := Tryz.isAgg4
  z4 := Tryz.sizeOf4
  v4 := Tryz.zeroValue4
  t5 := Tryz.underlying5
  a5 := Tryz.isAgg5
  z5 := Tryz.sizeOf5
  v5 := Tryz.zeroValue5
  t9 := Tryz.underlying9
  a9 := Tryz.isAgg9
  z9 := Tryz.sizeOf9
  v9 := Tryz.zeroValue9
  t22 := Tryz.underlying47
  a22 := Tryz.isAgg47
  z22 := Tryz.sizeOf47
  v22 := Tryz.zeroValue47
  t25 := Tryz.underlying81
  a25 := Tryz.isAgg81
  z25 := Tryz.sizeOf81
  v25 := Tryz.zeroValue81
  t39 := Tryz.underlying99
  a39 := Tryz.isAgg99
  z39 := Tryz.sizeOf99
  v39 := Tryz.zeroValue99
  t45 := Tryz.underlying114
  a45 := Tryz.isAgg114
  z45 := Tryz.sizeOf114
  v45 := Tryz.zeroValue114
  t46 := Tryz.underlying115
  a46 := Tryz.isAgg115
  z46 := Tryz.sizeOf115
  v46 := Tryz.zeroValue115
  t50 := Tryz.underlying74
  a50 := Tryz.isAgg74
  z50 := Tryz.sizeOf74
  v50 := Tryz.zeroValue74
  t53 := Tryz.underlying121
  a53 := Tryz.isAgg121
  z53 := Tryz.sizeOf121
  v53 := Tryz.zeroValue121
  t55 := Tryz.underlying123
  a55 := Tryz.isAgg123
  z55 := Tryz.sizeOf123
  v55 := Tryz.zeroValue123
  t66 := Tryz.underlying131
  a66 := Tryz.isAgg131
  z66 := Tryz.sizeOf131
  v66 := Tryz.zeroValue131
  t70 := Tryz.underlying135
  a70 := Tryz.isAgg135
  z70 := Tryz.sizeOf135
  v70 := Tryz.zeroValue135
  t76 := Tryz.underlying145
  a76 := Tryz.isAgg145
  z76 := Tryz.sizeOf145
  v76 := Tryz.zeroValue145
  t77 := Tryz.underlying126
  a77 := Tryz.isAgg126
  z77 := Tryz.sizeOf126
  v77 := Tryz.zeroValue126 }
def encP (x : Pk) : List Value := [.string x.1, .int .i64 x.2]
def cmpP (x y : Pk) : Int := Lib.compareBytes x.1.data.toList y.1.data.toList
set_option maxHeartbeats 1000000 in
theorem isNaN_text (x : ByteArray) (W : World) : Calls Tryz.prog 76 #[.string x] W fun e w' => e = .returned (.bool false) ∧ W = w' := by
  have hx : (x.toList == x.toList) = true := beq_self_eq_true _
  go_enter Tryz.func76, Tryz.ntmps76
  go_wp2
  go_ret
  exact ⟨by simp [hx], rfl⟩
set_option maxHeartbeats 1000000 in
theorem compare_text (x y : ByteArray) (W : World) : Calls Tryz.prog 46 #[.string x, .string y] W fun e w' => e = .returned (.int .i64 (Lib.compareBytes x.data.toList y.data.toList)) ∧ W = w' := by
  have HN := hide (fun z wx => isNaN_text z wx)
  rcases Pick.nlt_cases x y with h | h | h
  · have e0 : Lib.compareBytes x.data.toList y.data.toList = -1 := Depot.cmp_lt (bytes_lt h)
    rw [e0]
    have t1 : Op.bytesLess x.toList y.toList = true := h
    clear e0 h
    go_enter Tryz.func46, Tryz.ntmps46
    go_wp2_with (first
      | (go_at_call 76
         refine (HN.out _ _).mono ?_
         rintro e w1 ⟨rfl, rfl⟩))
    go_ret
    exact ⟨rfl, rfl⟩
  · subst h
    rw [Depot.cmp_self]
    have t1 : Op.bytesLess x.toList x.toList = false := nlt_self x
    go_enter Tryz.func46, Tryz.ntmps46
    go_wp2_with (first
      | (go_at_call 76
         refine (HN.out _ _).mono ?_
         rintro e w1 ⟨rfl, rfl⟩))
    go_ret
    exact ⟨rfl, rfl⟩
  · have e0 : Lib.compareBytes x.data.toList y.data.toList = 1 := Depot.cmp_gt (bytes_lt h)
    rw [e0]
    have t1 : Op.bytesLess x.toList y.toList = false := nlt_asymm h
    have t2 : Op.bytesLess y.toList x.toList = true := h
    have t3 : (x.toList == y.toList) = false := by rw [eq_names]; exact decide_eq_false fun e => nlt_ne h e.symm
    clear e0 h
    go_enter Tryz.func46, Tryz.ntmps46
    go_wp2_with (first
      | (go_at_call 76
         refine (HN.out _ _).mono ?_
         rintro e w1 ⟨rfl, rfl⟩))
    go_ret
    exact ⟨rfl, rfl⟩
set_option maxHeartbeats 1000000 in
theorem closureP_any (x y : Pk) (W : World) : Calls Tryz.prog 45 #[.agg #[.string x.1, .int .i64 x.2], .agg #[.string y.1, .int .i64 y.2]] W fun e w' => e = .returned (.int .i64 (cmpP x y)) ∧ ∃ q os', w' = grow (W.drewN q) os' := by
  have hcon := fun W' => compare_text x.1 y.1 W'
  unfold cmpP
  generalize Lib.compareBytes x.1.data.toList y.1.data.toList = r at hcon ⊢
  go_enter Tryz.func45, Tryz.ntmps45
  go_wp2_with (go_at_call 46; refine (hcon _).mono ?_; rintro e w' ⟨rfl, rfl⟩)
  go_ret
  exact ⟨rfl, 0, _, by rw [alloc_eq_grow, alloc_eq_grow, grow_grow]; rfl⟩
theorem ltName (x y : Pk) : ltOf cmpP x y = nlt x.1 y.1 := by
  unfold ltOf cmpP
  rcases Pick.nlt_cases x.1 y.1 with h | h | h
  · rw [show Lib.compareBytes x.1.data.toList y.1.data.toList = -1 from Depot.cmp_lt (bytes_lt h), h]; rfl
  · rw [h, Depot.cmp_self, nlt_self]; rfl
  · rw [show Lib.compareBytes x.1.data.toList y.1.data.toList = 1 from Depot.cmp_gt (bytes_lt h)]
    cases e : nlt x.1 y.1 with
    | false => rfl
    | true =>
      have := nlt_trans e h
      rw [nlt_self] at this
      cases this
theorem swoName : SWO (ltOf cmpP) where
  irrefl x := by rw [ltName]; exact nlt_self _
  trans x y z h1 h2 := by rw [ltName] at *; exact nlt_trans h1 h2
  ntrans x y z h1 h2 := by
    rw [ltName] at *
    cases e : nlt x.1 z.1 with
    | false => rfl
    | true =>
      rcases Pick.nlt_cases x.1 y.1 with h | h | h
      · rw [h] at h1; cases h1
      · rw [h] at e; rw [e] at h2; cases h2
      · rw [nlt_trans h e] at h2; cases h2
theorem sortP_at (blk off cap : Nat) (d : Array Pk) (w : World) (hH : HoldsK encP 2 w blk off d) (hblk : blk < w.heap.size) (hsz : d.size < 4611686018427387904) :
    Calls Tryz.prog 44 #[.slice (some ⟨blk, off, none⟩) d.size cap, .func (.func 45) #[] #[]] w fun e w' =>
      e = .returned (.tuple #[]) ∧ ∃ d' n os, PermIn 0 d.size d d' ∧ SortedIn (ltOf cmpP) 0 d.size d' ∧ w' = sortWorldK encP 2 w blk off n d' os := by
  have eg : ∀ args w, (callFunc 45 args).run Tryz.prog w = .ok (.enter 45 args) w := enters_of Tryz.func45 (by kernel_rfl) rfl
  exact AnyQ.slices_SortFunc sortLaysP 2 Tryz.isAgg78 Tryz.sizeOf78 encP (fun _ => rfl) (fun x v hv => by simp [encP] at hv; rcases hv with rfl | rfl <;> rfl) cmpP swoName 45 #[] blk off cap d w eg (fun _ _ _ _ x y => closureP_any x y _) hH hblk hsz
theorem flat_pks (d : Array Pk) : (Sort.flatK encP 2 d).toList = pks d.toList := by
  apply List.ext_getElem?
  intro t
  by_cases ht : t < d.size * 2
  · have hs : t < (Sort.flatK encP 2 d).size := by simpa using ht
    have e1 : (Sort.flatK encP 2 d).toList[t]? = some ((Sort.flatK encP 2 d)[t]!) := by
      rw [Array.getElem?_toList, getElem!_pos _ t hs, Array.getElem?_eq_getElem hs]
    rw [e1, Sort.get_flatK encP 2 d t ht]
    have hi : t / 2 < d.size := by omega
    have hg : d.toList[t / 2]? = some d[t / 2] := by rw [Array.getElem?_toList, Array.getElem?_eq_getElem hi]
    have hd : d[t / 2]! = d[t / 2] := getElem!_pos d _ hi
    obtain ⟨s1, s2⟩ := pks_get d.toList (t / 2) _ hg
    rw [hd]
    rcases Nat.mod_two_eq_zero_or_one t with h | h
    · have e2 : t = t / 2 * 2 := by omega
      rw [h]
      conv => rhs; rw [e2, s1]
      rfl
    · have e2 : t = t / 2 * 2 + 1 := by omega
      rw [h]
      conv => rhs; rw [e2, s2]
      rfl
  · rw [List.getElem?_eq_none (by simp; omega), List.getElem?_eq_none (by rw [pks_length, Array.length_toList]; omega)]
theorem block_sorted {w : World} {g m : Nat} {cur : Array Value} {e : TypeId} {d : Array Pk} {os : Array Obj} (hg : w.heap[g]? = some (.cells cur e (0, 0))) :
    (Sort.grow (Sort.putRowK encP 2 (Sort.ahead w m) g 0 d) os).heap[g]? = some (.cells (Sort.putCells id 0 (Sort.flatK encP 2 d) cur) e (0, 0)) := by
  have hlt : g < w.heap.size := (Array.getElem?_eq_some_iff.1 hg).1
  rw [Sort.heap_grow_old _ _ (by unfold Sort.putRowK; rw [Sort.size_putRow]; exact hlt)]
  unfold Sort.putRowK Sort.putRow Sort.mapBlock
  simp only [Array.getElem?_modify, Sort.heap_ahead, if_true, hg, Option.map_some, Sort.onCells]
theorem block_other {w : World} {g m k : Nat} {d : Array Pk} {os : Array Obj} (hk : k < w.heap.size) (hne : k ≠ g) :
    (Sort.grow (Sort.putRowK encP 2 (Sort.ahead w m) g 0 d) os).heap[k]? = w.heap[k]? := by
  rw [Sort.heap_grow_old _ _ (by unfold Sort.putRowK; rw [Sort.size_putRow]; exact hk)]
  unfold Sort.putRowK Sort.putRow Sort.mapBlock
  simp only [Array.getElem?_modify, Sort.heap_ahead]
  rw [if_neg (fun h => hne h.symm)]
theorem take_put (F cur : Array Value) (n : Nat) (hF : F.size = n) (hc : n ≤ cur.size) : (Sort.putCells id 0 F cur).toList.take n = F.toList := by
  apply List.ext_getElem?
  intro t
  by_cases ht : t < n
  · rw [List.getElem?_take_of_lt ht, Array.getElem?_toList, Array.getElem?_toList]
    unfold Sort.putCells
    rw [Array.getElem?_mapIdx, Array.getElem?_eq_getElem (show t < cur.size by omega), Array.getElem?_eq_getElem (show t < F.size by omega)]
    simp only [Option.map_some, Option.some.injEq]
    rw [if_pos ⟨Nat.zero_le _, by omega⟩]
    simp only [id, Nat.sub_zero]
    exact getElem!_pos F t (by omega)
  · rw [List.getElem?_eq_none (by simp; omega), List.getElem?_eq_none (by simp; omega)]
set_option maxHeartbeats 1000000 in
theorem sortP_new {B n c : Nat} {A : Option Addr} {l : List Pk} (w : World) (h : NewP w B A n c l) (hB : B ≤ w.heap.size) (hn : n ≤ 1000000001) :
    Calls Tryz.prog 44 #[.slice A n c, .func (.func 45) #[] #[]] w fun e w' =>
      e = .returned (.tuple #[]) ∧ ∃ d : List Pk, d.Perm l ∧ d.length = l.length ∧ d.Pairwise (fun x y => nlt y.1 x.1 = false) ∧ NewP w' B A n c d ∧ Below B w w' := by
  rcases Nat.eq_zero_or_pos n with h0 | h0
  · subst h0
    have hl : l = [] := List.eq_nil_of_length_eq_zero h.1.symm
    subst hl
    refine (AnyF.slices_SortFunc_none sortLaysP A c _ w).mono ?_
    rintro e w' ⟨rfl, rfl⟩
    exact ⟨rfl, [], List.Perm.refl _, rfl, List.Pairwise.nil, h, Below.refl _ _⟩
  · have hlen := h.1
    have h0' := h
    obtain ⟨-, h2, h3, -⟩ := h0'
    rcases h3.2 with ⟨_, hn0⟩ | ⟨g, cap, cur, hv, hBg, hg, hnc, hm, hcs, ht⟩
    · omega
    injection hv with e1 e2 e3
    subst e1 e3
    have hglt : g < w.heap.size := (Array.getElem?_eq_some_iff.1 hg).1
    have hb : Blk w g 78 cur := hg
    have hsz : l.toArray.size = n := by simp [hlen]
    have hH : Sort.HoldsK encP 2 w g 0 l.toArray := by
      intro j hj
      have hj2 : j < n * 2 := by simpa [hlen] using hj
      rw [Nat.zero_add]
      refine ⟨?_, hb.frozen j⟩
      rw [hb.cell]
      have e1 : (pks l)[j]? = cur[j]? := by rw [← ht, List.getElem?_take_of_lt hj2, Array.getElem?_toList]
      have e2 := flat_pks l.toArray
      have e3 : (Sort.flatK encP 2 l.toArray).toList[j]? = some ((Sort.flatK encP 2 l.toArray)[j]!) := by
        rw [Array.getElem?_toList, getElem!_pos _ j hj, Array.getElem?_eq_getElem hj]
      rw [e2] at e3
      rw [← e1]
      exact e3
    have hcon := sortP_at g 0 c l.toArray w hH hglt (by rw [hsz]; omega)
    rw [hsz] at hcon
    refine hcon.mono ?_
    rintro e w' ⟨rfl, d', m, os, hp, hso, rfl⟩
    obtain ⟨hps, _, hpp⟩ := hp
    rw [hsz] at hps
    have hd : d'.toList.Perm l := by
      have x1 : d'.extract 0 n = d' := by rw [← hps]; exact Array.extract_size
      have x2 : l.toArray.extract 0 n = l.toArray := by rw [← hsz]; exact Array.extract_size
      rw [x1, x2] at hpp
      exact hpp
    have hown : (sortWorldK encP 2 w g 0 m d' os).ownsRow B 78 2 (.slice (some ⟨g, 0, none⟩) n c) n (pks d'.toList) := by
      refine ⟨by rw [pks_length, Array.length_toList, hps], .inr ⟨g, c, _, rfl, hBg, block_sorted hg, hnc, hm, by simpa [Sort.putCells] using hcs, ?_⟩⟩
      rw [← flat_pks]
      exact take_put _ _ _ (by simp [hps]) (by omega)
    obtain ⟨A', c', e', hN⟩ := newP_of_own hown
    injection e' with e1' _ e3'
    subst e1' e3'
    refine ⟨rfl, d'.toList, hd, by rw [Array.length_toList, hps, hlen], ?_, hN, ?_⟩
    · rw [List.pairwise_iff_getElem]
      intro i j hi hj hij
      have hi' : i < d'.size := by simpa using hi
      have hj' : j < d'.size := by simpa using hj
      have := hso i j (Nat.zero_le _) hij (by omega)
      rw [ltName, getElem!_pos d' j hj', getElem!_pos d' i hi'] at this
      simpa using this
    · refine ⟨rfl, rfl, rfl, ?_, fun k hk => ?_⟩
      · unfold sortWorldK
        rw [Sort.size_grow]; unfold Sort.putRowK; rw [Sort.size_putRow]
        exact Nat.le_add_right _ _
      · exact block_other (by omega) (by omega)
end Go.Proofs.YtllogmokadcfmaaGreat.Trail
