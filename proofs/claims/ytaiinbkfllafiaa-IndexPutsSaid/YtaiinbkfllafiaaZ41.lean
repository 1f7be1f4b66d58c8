/-
  Some texts of this claim, one behind the other: IndexNames, IndexClone, IndexRefPut, IndexAwake, IndexSame, IndexStaysW, IndexPutsW. What each proves, and its condition, stands at its head.
-/
import Derived.Test.YtaiinbkfllafiaaZ39
import Derived.Test.YtaiinbkfllafiaaZ40
import Derived.Test.YtaiinbkfllafiaaZ11
import Derived.Shelf.SlMaps.Clone
import Derived.Maps.RangeWalk
import Derived.Sort.KeysCollected
import Derived.Test.YtaiinbkfllafiaaZ38
import Derived.Test.YtaiinbkfllafiaaZ35
import Derived.Test.YtaiinbkfllafiaaZ15
import Derived.Test.YtaiinbkfllafiaaZ33
import Derived.Test.YtaiinbkfllafiaaZ21
/-
  Contracts of the program's Names, Clone and Of: the names that are known, rising; an index that knows the same; one into which entries were put. Condition: names and lists of a length that may be walked.
-/
namespace Go.Proofs.Ytaiinbkfllafiaa.Index
open Go Go.RowKit Go.Lib Go.Maps Go.Sort Go.Shelf Go.Proofs.Ytaiinbkfllafiaa.Span Go.Proofs.Ytaiinbkfllafiaa.Need Go.Proofs.Ytaiinbkfllafiaa.Mani Go.Proofs.Ytaiinbkfllafiaa.Wire Go.Proofs.Ytaiinbkfllafiaa.Depot Go.Proofs.Ytaiinbkfllafiaa.MapV
set_option linter.unusedVariables false
/-- Names that may be walked. -/
def ShortX (l : List Kn) : Prop := ∀ q ∈ l, q.1.size ≤ 1000000000
theorem ShortX.nil : ShortX [] := fun q hq => by cases hq
theorem ShortX.put {l : List Kn} (h : ShortX l) {nm : ByteArray} (hnm : nm.size ≤ 1000000000) (b : List UInt8) : ShortX (putX l nm b) := by
  unfold putX
  split
  · intro q hq
    rcases (insX_mem _ _).1 hq with rfl | hq
    · exact hnm
    · exact h q hq
  · exact h
theorem texts_of (L : List ByteArray) : (L.map bytesOf).map encStr = tcs L := by
  rw [List.map_map]
  unfold tcs
  refine List.map_congr_left fun x _ => ?_
  simp [encStr, bytesOf]
theorem told_key {D : DataW Value} {l : List Nv} (h : MapV.Told D l) {x : List UInt8} (hx : Maps.has D (.string x) = true) : (⟨x.toArray⟩ : ByteArray) ∈ l.map Prod.fst := by
  have e : bytesOf (⟨x.toArray⟩ : ByteArray) = x := by simp [bytesOf]
  have h2 := h.2.1 ⟨x.toArray⟩
  rw [e, hx] at h2
  generalize (⟨x.toArray⟩ : ByteArray) = nm at h2
  clear h hx e
  induction l with
  | nil => cases h2
  | cons q t ih =>
    rw [lookA] at h2
    by_cases g : q.1 = nm
    · simp [g]
    · rw [if_neg g] at h2
      exact List.mem_cons_of_mem _ (ih h2)
set_option maxHeartbeats 4000000 in
set_option maxRecDepth 100000 in
theorem names_any (g : Nat) (mo : Option Nat) (l : List Kn) (w : World) (h : Idx w g mo l) (hl : RisesK l) (hs : ShortX l) (hlen : l.length ≤ 100000) :
    Calls Try.prog 17 #[.pointer (some ⟨g, 0, none⟩)] w (MakesT w (namesX l)) := by
  obtain ⟨i0, hi, hz0, hz1, hz2⟩ := info_parts info_str
  have hc := (h.1.cell 0).trans (show (#[Value.map mo] : Array Value)[0]? = some (.map mo) from rfl)
  rcases h.2 with ⟨rfl, rfl⟩ | ⟨b, rfl, hm⟩
  · have hrg := fun (w1 : World) => run_range_nilMap (P := Try.prog) w1 50 9 54 Try.underlying50
    have hnx : ∀ (w1 : World) ty, (Instr.next (.pointer (some ⟨w1.heap.size, 0, none⟩)) false ty).run Try.prog (w1.alloc (.mapIter none 0 #[] 0)) = _ := fun (w1 : World) ty => run_next_nilMap w1 ty 0 0 #[]
    have HS := hide (fun wx => sort_own w.heap.size (.slice none 0 0) [] wx (World.ownsRow_nil _ _ _ _) (by simp))
    go_enter Try.func17, Try.ntmps17
    go_wp2
    refine wp_loop_rounds 1 ?_
    rw [rounds_succ]
    go_wp2_with (first
      | (go_at_call 31
         refine (HS.out _).mono ?_
         rintro e w2 ⟨rfl, hown2, hg2⟩
         have hbw : Below w.heap.size w w2 := (alloc_b _).grown hg2 (by simp) (fun k hk => by simp [Value.ownBlock] at hk)))
    go_ret
    exact ⟨none, 0, 0, rfl, ⟨rfl, fun h => absurd h (by omega)⟩, hbw⟩
  · obtain ⟨val, ⟨D, ho, ht⟩, hk⟩ := hm
    have hsz : Maps.size D = l.length := by rw [ht.2.2.2, nvs_length]
    have Hsz := hide hsz
    have hbl := ho.lt
    have Hkey := hide (fun (x : List UInt8) (hx : Maps.has D (.string x) = true) => by
      have h2 := told_key ht hx
      rw [nvs_names] at h2
      obtain ⟨q, hq, e⟩ := List.mem_map.1 h2
      have h3 := hs q hq
      rw [e] at h3
      exact h3)
    have Hend := hide (fun (wx : World) (n : Nat) (ss : List (List UInt8)) (ho' : wx.ownsMap Try.prog 9 valElem b n D) (hp : ss.Perm (strKeys D)) => sorted_v ho' ht (by rw [nvs_names]; exact namesX_rises hl) hp)
    rw [nvs_names] at Hend
    clear hsz ht hk hs hl h
    go_enter Try.func17, Try.ntmps17
    go_wp2_with (first
      | (at_range
         refine wpList_range_own _ rfl _ 50 rfl 9 54 keyed Try.underlying50 valElem b l.length D rfl ho ?_
         intro w0 hrg0 hg0 hs0))
    go_frame
    have hw0 : Below w.heap.size w w0 := (Below.refl _ _).grown hg0 (Nat.le_refl _) (fun j hj => by cases hj)
    clear hs0
    go_loopw [3] (fun v wr => ∃ (left : Lit → Bool) (cnt : Nat) (ss : List (List UInt8)), wr.ranges Try.prog 9 valElem b w.heap.size l.length D left cnt ∧ ss.length + cnt ≤ Maps.size D ∧ wr.ownsRow w.heap.size 9 1 v ss.length (ss.map encStr) ∧ Collected D left ss ∧ Below w.heap.size w wr)
      (fun _ wr => wr.rangeLeft b w.heap.size)
    case atStart => exact ⟨_, _, [], hrg0, by simp, World.ownsRow_nil _ _ _ _, Collected.start D, hw0⟩
    case round =>
      obtain ⟨left, cnt, ss, hrg, hcs, hrow, hC, hnx⟩ := hrel
      have hsl := Hsz.out
      have hssl : ss.length ≤ 100000 := by omega
      go_wp2_with (first
        | (at_next
           refine wpList_next_ranges _ rfl _ rfl 9 keyed valElem encStr (fun v : Value => v) (fun key kl hk => by obtain ⟨x, hx, _⟩ := Maps.keyOf_str Try.underlying9 hk; exact ⟨x, hx⟩) (fun v y hv => ⟨v, rfl⟩) b w.heap.size l.length _ _ _ rfl hrg ?_ ?_))
      · intro hc0 hl0
        have hmap := hrg.owns
        have hperm := hC.perm hmap keyed Try.underlying9 hl0
        have hE := Hend.out wr _ ss hmap hperm
        have HS := hide (sort_own w.heap.size _ ss wr hrow (by omega))
        obtain ⟨Av, cv, rfl, _⟩ := own_form hrow
        clear hperm hC hrg hcs
        go_wp2_with (first
          | (go_at_call 31
             refine HS.out.mono ?_
             rintro e w2 ⟨rfl, hown2, hg2⟩))
        rw [hE, texts_of] at hown2
        have hbw : Below w.heap.size w w2 := hnx.grown hg2 hnx.size (fun j hj => (hrow.lt j hj).1)
        obtain ⟨A9, c9, e9, _, hT⟩ := own_texts hown2
        go_ret
        injection e9 with e1 e2 e3
        subst e1 e3
        exact ⟨Av, ss.length, cv, rfl, hT, hbw⟩
      · intro x c kl yd yp w2 cnt2 hkey hlk hv hat hrg2 hlt hg2 hs2 hen
        obtain ⟨x', ex, rfl, _⟩ := Maps.keyOf_str Try.underlying9 hkey
        obtain rfl : x = x' := encStr_inj ex
        have hsx := Hkey.out x (Maps.has_true_of_atKey hat)
        have HC := hide (fun wx => Label.clone_any ⟨x.toArray⟩ wx hsx)
        have hrow2 := hrow.kept hg2 (Or.inr (row_ne_iter hrow hrg).symm)
        have hnx2 : Below w.heap.size w w2 := hnx.grown hg2 hnx.size (fun j hj => by cases hj; exact Nat.le_refl _)
        obtain ⟨Av, cv, rfl, _⟩ := own_form hrow
        have hstep := hC.step hlk hat
        have hmeas := hide (show cnt2 < cnt from hlt)
        have hleft := hide hrg.left_eq
        have hri2 := hide (row_ne_iter hrow2 hrg2)
        have hrl2 := hide (row_ne_low hrow2 hbl)
        have hbs2 := hnx2.size
        have hcs2 : ss.length + 1 + cnt2 ≤ Maps.size D := by omega
        have Hcs2 := hide hcs2
        clear hs2 hC hrow hrg hnx hg2 hlt hcs hcs2 hkey hat hlk
        go_wp2_with (first
          | (go_at_call 21
             refine (HC.out _).mono ?_
             rintro e w3 ⟨rfl, hb3⟩
             have hrow3 := own_below hrow2 hb3
             have hrg3 := hrg2.kept (only_of_below hb3 none) (by simp) (by simp)
             have hnx3 := hnx2.trans (hb3.mono hbs2)
             have hbs3 := hnx3.size)
          | (at_builtin
             refine wpList_append_any _ rfl _ _ _ rfl w.heap.size 9 i0 _ 1 16 Try.underlying46 hi hz0 hz1 hz2 rfl (by omega) _ ss.length (ss.map encStr) rfl
               (hrow3.alloc _) _ _ 1 _ [encStr x] rfl (Reads.new1 _ _ _) (by simp [Value.oneCell', encStr]) (by unfold maxLen; omega) (by omega) (by simp; omega) ?_
             intro v4 w4 hown4 hg4 hat4
             go_frame))
        have hrg4 := (hrg3.alloc (.cells #[encStr x] 9)).kept hg4 hrl2.out hri2.out
        have hnx4 : Below w.heap.size w w4 := (hnx3.alloc hbs3 (.cells #[encStr x] 9)).grown hg4 (by simp; omega) (fun j hj => (hrow3.lt j hj).1)
        go_roundw
        case rel => exact ⟨_, cnt2, ss ++ [x], hrg4, by rw [List.length_append]; exact Hcs2.out, by simpa using hown4, hstep, hnx4⟩
        case measure => rw [hrg4.left_eq, hleft.out]; exact hmeas.out
end Go.Proofs.Ytaiinbkfllafiaa.Index
/-
  Contracts of the program's Clone and Of, and of Names at nil: an index that knows the same; one into which entries were put. Condition: names and lists of a length that may be walked.
-/
namespace Go.Proofs.Ytaiinbkfllafiaa.Index
open Go Go.RowKit Go.Lib Go.Maps Go.Sort Go.Shelf Go.Proofs.Ytaiinbkfllafiaa.Span Go.Proofs.Ytaiinbkfllafiaa.Need Go.Proofs.Ytaiinbkfllafiaa.Mani Go.Proofs.Ytaiinbkfllafiaa.Wire Go.Proofs.Ytaiinbkfllafiaa.Depot Go.Proofs.Ytaiinbkfllafiaa.MapV
set_option linter.unusedVariables false
def cloneRen : Ren := ⟨fun | 5 => 25 | 7 => 41 | n => n, fun | 3 => 54 | 4 => 4 | 20 => 20 | 23 => 50 | 25 => 9 | n => n, fun n => n⟩
theorem cloneLays : SlLaysW.n5 Try.prog cloneRen := {
  mixed := by kernel_rfl
  f5 := ⟨ "maps.Clone[map[string]comprador/index.known,string,comprador/index.known]", by decide, Try.func25.trans (congrArg some (by kernel_rfl))⟩
  f7 := Try.func41.trans (congrArg some (by kernel_rfl))
  t4 := Try.underlying4
  a4 := Try.isAgg4
  z4 := Try.sizeOf4
  v4 := Try.zeroValue4
  t20 := Try.underlying20
  a20 := Try.isAgg20
  z20 := Try.sizeOf20
  v20 := Try.zeroValue20
  t23 := Try.underlying50
  a23 := Try.isAgg50
  z23 := Try.sizeOf50
  v23 := Try.zeroValue50 }
/-- A map that knows the same. -/
theorem mapsClone_any (mo : Option Nat) (l : List Kn) (w : World) (h : (mo = none ∧ l = []) ∨ ∃ b, mo = some b ∧ IdxM w b l) :
    Calls Try.prog 25 #[.map mo] w fun e w' =>
      ∃ mo', e = .returned (.map mo') ∧ ((mo' = none ∧ l = []) ∨ ∃ b, mo' = some b ∧ IdxM w' b l ∧ w.heap.size ≤ b) ∧ Below w.heap.size w w' := by
  rcases h with ⟨rfl, e⟩ | ⟨b, rfl, val, ⟨D, ho, ht⟩, hk⟩
  · refine (AnyW.maps_Clone_nil cloneLays w).mono ?_
    rintro e1 w' ⟨rfl, rfl⟩
    exact ⟨none, rfl, .inl ⟨rfl, e⟩, Below.refl _ _⟩
  · refine (AnyW.maps_Clone_owns cloneLays 9 valElem b l.length D w ho).mono ?_
    rintro e1 w' ⟨rfl, h1, h2, hb⟩
    exact ⟨some w.heap.size, rfl, .inr ⟨_, rfl, ⟨val, ⟨D, h1, ht⟩, fun q hq => (hk q hq).below hb⟩, Nat.le_refl _⟩, hb⟩
set_option maxHeartbeats 2000000 in
set_option maxRecDepth 100000 in
theorem clone_any (g : Nat) (mo : Option Nat) (l : List Kn) (w : World) (h : Idx w g mo l) :
    Calls Try.prog 10 #[.pointer (some ⟨g, 0, none⟩)] w fun e w' =>
      ∃ g' mo', e = .returned (.pointer (some ⟨g', 0, none⟩)) ∧ Idx w' g' mo' l ∧ w.heap.size ≤ g' ∧ (∀ b, mo' = some b → w.heap.size ≤ b) ∧ Below w.heap.size w w' := by
  have HC := hide (mapsClone_any mo l w h.2)
  have hc := (h.1.cell 0).trans (show (#[Value.map mo] : Array Value)[0]? = some (.map mo) from rfl)
  clear h
  go_enter Try.func10, Try.ntmps10
  go_wp2_with (first
    | (go_at_call 25
       refine HC.out.mono ?_
       rintro e w1 ⟨mo', rfl, hm, hb1⟩))
  go_ret
  refine ⟨w1.heap.size, mo', rfl, ⟨Blk.new _ _ _, ?_⟩, hb1.size, fun b e => ?_, hb1.alloc hb1.size _⟩
  · rcases hm with hm | ⟨b, e, hm, _⟩
    · exact .inl hm
    · exact .inr ⟨b, e, hm.below (alloc_b _)⟩
  · rcases hm with ⟨e2, _⟩ | ⟨b2, e2, _, h3⟩
    · rw [e] at e2; cases e2
    · rw [e] at e2
      injection e2 with e2
      rw [e2]; exact h3
set_option maxHeartbeats 2000000 in
set_option maxRecDepth 100000 in
theorem clone_nil (w : World) : Calls Try.prog 10 #[.pointer none] w fun e w' => e = .returned (.pointer none) ∧ w = w' := by
  go_enter Try.func10, Try.ntmps10
  go_wp2
  go_ret
  exact ⟨rfl, rfl⟩
set_option maxHeartbeats 2000000 in
set_option maxRecDepth 100000 in
theorem names_nil (w : World) : Calls Try.prog 17 #[.pointer none] w fun e w' => e = .returned (.slice none 0 0) ∧ Below w.heap.size w w' := by
  have HS := hide (fun wx => sort_own w.heap.size (.slice none 0 0) [] wx (World.ownsRow_nil _ _ _ _) (by simp))
  go_enter Try.func17, Try.ntmps17
  go_wp2_with (first
    | (go_at_call 31
       refine (HS.out _).mono ?_
       rintro e w2 ⟨rfl, hown2, hg2⟩
       have hbw : Below w.heap.size w w2 := (Below.refl _ _).grown hg2 (Nat.le_refl _) (fun k hk => by simp [Value.ownBlock] at hk)))
  go_ret
  exact ⟨rfl, hbw⟩
/-- What is known behind entries, and its bounds. -/
theorem puts_short {l : List Kn} (h : ShortX l) (es : List En) (he : ∀ e ∈ es, e.1.size ≤ 1000000000) : ShortX (putsX l es) := by
  induction es generalizing l with
  | nil => exact h
  | cons e t ih => exact ih (h.put (he e (by simp)) e.2) fun x hx => he x (by simp [hx])
/-- An index all of whose blocks lie at B or behind. -/
def IdxB (w : World) (B g : Nat) (l : List Kn) : Prop := B ≤ g ∧ ∃ mo, Idx w g mo l ∧ ∀ b, mo = some b → B ≤ b
theorem IdxB.row {g B : Nat} {mo : Option Nat} (hg : B ≤ g) (hm : ∀ b, mo = some b → B ≤ b) : B ≤ rowX g mo := by
  cases mo with
  | none => exact hg
  | some b => exact hm b rfl
theorem IdxB.below {w w' : World} {B g : Nat} {l : List Kn} (h : IdxB w B g l) (hb : Below w.heap.size w w') : IdxB w' B g l := by
  obtain ⟨h1, mo, h2, h3⟩ := h
  exact ⟨h1, mo, h2.below hb, h3⟩
theorem IdxB.lt {w : World} {B g : Nat} {l : List Kn} (h : IdxB w B g l) : g < w.heap.size := by
  obtain ⟨_, mo, h2, _⟩ := h
  exact h2.lt
theorem IdxB.le {w : World} {B g : Nat} {l : List Kn} (h : IdxB w B g l) : B ≤ w.heap.size := Nat.le_trans h.1 (Nat.le_of_lt h.lt)
/-- A put, where all that is written lies at B or behind. -/
theorem putB_any (g : Nat) (l : List Kn) (nm : ByteArray) (bd : List UInt8) (A : Option Addr) (n c B : Nat) (w : World) (h : IdxB w B g l) (hl : RisesK l) (hlen : l.length ≤ 100000) (hr : Reads w B 1 A n (bcs bd)) (hnm : nm.size ≤ 1000000000) :
    Calls Try.prog 8 #[.pointer (some ⟨g, 0, none⟩), .string nm, .slice A n c] w fun e w' =>
      e = .returned (.int .i64 (errX l nm bd)) ∧ IdxB w' B g (putX l nm bd) ∧ Below B w w' := by
  have hle := h.le
  obtain ⟨h1, mo, h2, h3⟩ := h
  refine (put_any g mo l nm bd A n c B w h2 hl hlen hr (IdxB.row h1 h3) hnm).mono ?_
  rintro e w' ⟨he, ⟨mo', h4, h5⟩, hg⟩
  refine ⟨he, ⟨h1, mo', h4, fun b hb => ?_⟩, (Below.refl _ _).grown hg hle (fun k hk => by injection hk with hk; rw [← hk]; exact IdxB.row h1 h3)⟩
  rcases h5 with rfl | ⟨_, b', e2, h6⟩
  · exact h3 b hb
  · rw [hb] at e2
    injection e2 with e2
    rw [e2]; exact Nat.le_trans hle h6
set_option maxHeartbeats 4000000 in
set_option maxRecDepth 100000 in
theorem indexOf_any (l : List En) (A : Option Addr) (n c : Nat) (w : World) (h : EnOn w A n l) (hn : n ≤ 100000) (hl : ∀ e ∈ l, e.1.size ≤ 1000000000) :
    Calls Try.prog 14 #[.slice A n c] w fun e w' => ∃ g, e = .returned (.pointer (some ⟨g, 0, none⟩)) ∧ IdxB w' w.heap.size g (putsX [] l) ∧ Below w.heap.size w w' := by
  have HN := hide (new_any w)
  have Hlen := hide h.len
  go_enter Try.func14, Try.ntmps14
  go_wp2_with (first
    | (go_at_call 7
       refine HN.out.mono ?_
       rintro e w1 ⟨rfl, hI1, hb1⟩))
  go_loopw [9] (fun v wr => ∃ (i : Nat), i ≤ n ∧ v = .int .i64 (i : Int) ∧ IdxB wr w.heap.size w.heap.size (putsX [] (l.take i)) ∧ Below w.heap.size w wr) (fun v _ => n - (RowKit.intOf v).toNat)
  case atStart => exact ⟨0, by omega, rfl, ⟨Nat.le_refl _, none, hI1, fun b e => by cases e⟩, hb1⟩
  case round =>
    obtain ⟨i, hi, rfl, hI, hb⟩ := hrel
    have hbs := hb.size
    clear hI1 hb1
    by_cases hlt : i < n
    · obtain ⟨ad, q, A', n', c', rfl, hbl, hx, hs, c1, c2⟩ := PIn.at_ (EnIn.below h hb) hlt
      have hnm := hl q (List.mem_of_getElem? hx)
      have hst := putsX_take (l := []) hx
      have hrise := putsX_rises (l := []) List.Pairwise.nil (l.take i)
      have hplen := putsX_len [] (l.take i)
      have htl : (l.take i).length ≤ i := by rw [List.length_take]; omega
      have hpl : (putsX [] (l.take i)).length ≤ 100000 := by
        have e0 : ([] : List Kn).length = 0 := rfl
        omega
      obtain ⟨x, s⟩ := q
      simp only [] at c1 c2 hnm hst
      have hrd : Reads wr w.heap.size 1 A' n' (bcs s) := hs
      have HP := hide (fun (wx : World) (hx : Below wr.heap.size wr wx) => putB_any w.heap.size _ x s A' n' c' w.heap.size wx (hI.below hx) hrise hpl (hrd.below (hx.mono hbs)) hnm)
      have Hst := hide hst
      clear hst hrise hplen htl hpl hx hs hrd hI hnm
      generalize putsX [] (l.take i) = X at *
      go_wp2_with (first
        | (go_at_call 8
           refine (HP.out _ (alloc_b _)).mono ?_
           rintro e w2 ⟨rfl, hI2, hb2⟩))
      have hbw : Below w.heap.size w w2 := (hb.alloc hbs _).trans hb2
      go_roundw
      case rel => exact ⟨i + 1, by omega, by go_num, by rw [Hst.out]; exact hI2, hbw⟩
      case measure => simp [RowKit.intOf]; omega
    · have hi2 : i = n := by omega
      subst hi2
      rw [List.take_of_length_le (by rw [Hlen.out]; exact Nat.le_refl _)] at hI
      go_wp2
      go_ret
      exact ⟨w.heap.size, rfl, hI, hb⟩
end Go.Proofs.Ytaiinbkfllafiaa.Index
/-
  Contracts of the document's Put and Of: what an index knows behind a put, and behind entries. Condition: lists and names of a length that may be walked.
-/
namespace Go.Proofs.Ytaiinbkfllafiaa.Index
open Go Go.RowKit Go.Lib Go.Proofs.Ytaiinbkfllafiaa.Span Go.Proofs.Ytaiinbkfllafiaa.Need Go.Proofs.Ytaiinbkfllafiaa.Mani Go.Proofs.Ytaiinbkfllafiaa.Wire Go.Proofs.Ytaiinbkfllafiaa.Depot
open Go.Proofs.Ytaiinbkfllafiaa.Label (runes fitL)
set_option linter.unusedVariables false
/-- What the document's Put answers and leaves. -/
def PutsD (w : World) (g : Nat) (l : List Kn) (nm : ByteArray) (bd : List UInt8) (e : Ending) (w' : World) : Prop :=
  e = .returned (.int .i64 (errX l nm bd)) ∧ Doc w' g (putX l nm bd) ∧ w.grownBy w' (some g)
theorem Doc.below {w w' : World} {g : Nat} {l : List Kn} (h : Doc w g l) (hb : Below w.heap.size w w') : Doc w' g l := by
  obtain ⟨A, n, c, h1, h2⟩ := h
  exact ⟨A, n, c, h1.below hb h1.lt, h2.below hb⟩
theorem Doc.lt {w : World} {g : Nat} {l : List Kn} (h : Doc w g l) : g < w.heap.size := by
  obtain ⟨A, n, c, h1, h2⟩ := h
  exact h1.lt
theorem putsD_same {w w' : World} {g : Nat} {l : List Kn} {nm : ByteArray} {bd : List UInt8} {e : Ending} {c : Int} (h : Doc w g l) (he : errX l nm bd = c) (hc : c ≠ 0) (hb : Below w.heap.size w w') (e1 : e = .returned (.int .i64 c)) : PutsD w g l nm bd e w' := by
  refine ⟨by rw [he]; exact e1, ?_, only_of_below hb _⟩
  unfold putX
  rw [if_neg (by rw [he]; exact hc)]
  exact h.below hb
theorem insX_step {K q : Kn} {l : List Kn} {i : Nat} (p : Bool) (h : l[i]? = some q) : insX K p (l.drop i) = if p = false ∧ nlt K.1 q.1 = true then K :: q :: insX K true (l.drop (i + 1)) else q :: insX K p (l.drop (i + 1)) := by
  obtain ⟨hi, e⟩ := List.getElem?_eq_some_iff.1 h
  rw [List.drop_eq_getElem_cons hi, e]
  rfl
set_option maxHeartbeats 16000000 in
set_option maxRecDepth 100000 in
theorem refPutX_any (g : Nat) (l : List Kn) (nm : ByteArray) (bd : List UInt8) (w : World) (h : Doc w g l) (hlen : l.length ≤ 100000) (hnm : nm.size ≤ 1000000000) (hbd : bd.length ≤ 1000000000) :
    Calls Try.prog 9 #[.pointer (some ⟨g, 0, none⟩), .string nm, .string (str bd)] w (PutsD w g l nm bd) := by
  obtain ⟨i0, hi0, hz0, hz1, hz2⟩ := info_parts info_known
  have H := hide h
  obtain ⟨A, n, c, bX, hK⟩ := h
  have hln := hK.len
  have hn : n ≤ 100000 := by omega
  have hsz := str_size bd
  have HW := hide (Label.refFit_any nm w hnm)
  have HH := hide (fun (wx : World) (hb : Below w.heap.size w wx) => refHas_any l nm A n c wx (hK.below hb) (by omega))
  unfold Tells at HH
  have HR := hide (fun (wx : World) => refReadD_any nm bd wx)
  unfold ManR at HR
  have hmay : mayX nm bd = (fitL (runes nm 0) && decide ((str bd).size ≤ 8192)) := by unfold mayX; rw [hsz]
  have Hnew := hide (putX_new (l := l) (nm := nm) (bd := bd))
  have hval : valX nm bd = (relE nm bd, goodE nm bd) := rfl
  generalize fitL (runes nm 0) = F at *
  generalize str bd = s at *
  have hs9 : s.size ≤ 1000000000 := by omega
  clear hsz hbd
  cases F
  · have E : Hid (errX l nm bd = 1) := hide (by unfold errX; rw [if_pos (by rw [hmay]; rfl)])
    clear hmay hlen HH HR Hnew bX hK hval hln
    go_enter Try.func9, Try.ntmps9
    go_wp2_with (first
      | (go_at_call 22
         refine HW.out.mono ?_
         rintro e w1 ⟨rfl, hb1⟩))
    go_ret
    exact putsD_same H.out E.out (by decide) hb1 rfl
  · by_cases h8 : s.size ≤ 8192
    · have hz : ¬ ((8192 : Int) < (s.size : Int)) := by omega
      have hm1 : mayX nm bd = true := by rw [hmay, decide_eq_true h8]; rfl
      have Hm1 := hide hm1
      clear hmay hm1 h8
      cases ho : atX l nm with
      | some k0 =>
        have E : Hid (errX l nm bd = 6) := hide (by unfold errX; rw [if_neg (by rw [Hm1.out]; simp), if_pos (by rw [ho]; rfl)])
        have e0 : (atX l nm).isSome = true := by rw [ho]; rfl
        rw [e0] at HH
        clear ho e0 hlen HR Hnew hK hval hln
        go_enter Try.func9, Try.ntmps9
        go_wp2_with (first
          | (go_at_call 22
             refine HW.out.mono ?_
             rintro e w1 ⟨rfl, hb1⟩
             have k1 := ((bX.below hb1 bX.lt).cell 0).trans (show (#[Value.slice A n c] : Array Value)[0]? = some (.slice A n c) from rfl))
          | (go_at_call 23
             refine (HH.out _ hb1).mono ?_
             rintro e w2 ⟨rfl, hb2⟩
             have hbw2 := hb1.trans (hb2.mono hb1.size)))
        go_ret
        exact putsD_same H.out E.out (by decide) hbw2 rfl
      | none =>
        have E : Hid (errX l nm bd = 0) := hide (by unfold errX; rw [if_neg (by rw [Hm1.out]; simp), if_neg (by rw [ho]; simp)])
        have e0 : (atX l nm).isSome = false := by rw [ho]; rfl
        rw [e0] at HH
        obtain ⟨M, hM⟩ : ∃ M, M = insX (nm, valX nm bd) false l := ⟨_, rfl⟩
        have HP : Hid (putX l nm bd = M) := hide (by rw [Hnew.out E.out, hM])
        have HM := hide hM
        have Hlen := hide hln
        have HD := hide (fun i q p => @insX_step (nm, valX nm bd) q l i p)
        rw [hval] at HM HD
        have HK := hide hK
        generalize relE nm bd = rl at *
        generalize goodE nm bd = gd at *
        have hgl := bX.lt
        clear ho e0 hlen Hnew hK hval hln hM
        go_enter Try.func9, Try.ntmps9
        go_upto_region 6 with (first
          | (go_at_call 22
             refine HW.out.mono ?_
             rintro e w1 ⟨rfl, hb1⟩
             have k1 := ((bX.below hb1 bX.lt).cell 0).trans (show (#[Value.slice A n c] : Array Value)[0]? = some (.slice A n c) from rfl))
          | (go_at_call 23
             refine (HH.out _ hb1).mono ?_
             rintro e w2 ⟨rfl, hb2⟩
             have hbw2 := hb1.trans (hb2.mono hb1.size))
          | (go_at_call 24
             refine (HR.out _).mono ?_
             rintro e w3 ⟨A2, n2, c2, B2, rs2, rfl, hR3, hb3⟩
             have hbw3 := hbw2.trans (hb3.mono hbw2.size)))
        obtain ⟨W, hW⟩ : ∃ W, W = w3.alloc (.cells #[.string nm, .slice A2 n2 c2] 38) := ⟨_, rfl⟩
        have hMW : Blk W w3.heap.size 38 #[.string nm, .slice A2 n2 c2] := by rw [hW]; exact Blk.new _ _ _
        have hRW : Rls W B2 (.slice A2 n2 c2) n2 rs2 rl := by rw [hW]; exact hR3.below (alloc_b _)
        have hbW : Below w.heap.size w W := by rw [hW]; exact hbw3.alloc hbw3.size _
        have hXW := bX.below hbW bX.lt
        have hb7 : w.heap.size ≤ w3.heap.size := hbw3.size
        rw [← hW]
        clear hW hR3 hb3 hbw3 hbw2 hb2 hb1 k1 HW HH HR bX
        generalize w3.heap.size = b7 at *
        go_wp2
        go_loopw [9, 10, 11] (fun u b v wr => ∃ (i m : Nat) (p : Bool) (rs : List Rk) (out : List Kn), i ≤ n ∧ v = .int .i64 (i : Int) ∧ b = .bool p ∧ Kns wr w.heap.size u m rs out ∧ m ≤ i + 1 ∧ Hid (p = false → m ≤ i) ∧ Hid (out ++ insX (nm, rl, gd) p (l.drop i) = M) ∧ Blk wr g 29 #[.slice A n c] ∧ Blk wr b7 38 #[.string nm, .slice A2 n2 c2] ∧ Rls wr B2 (.slice A2 n2 c2) n2 rs2 rl ∧ Below w.heap.size w wr) (fun _ _ v _ => n - (RowKit.intOf v).toNat)
        case atStart => exact ⟨0, 0, false, [], [], by omega, rfl, rfl, Kns.nil_ _ _, by omega, hide (fun _ => by omega), hide (by rw [HM.out]; rfl), hXW, hMW, hRW, hbW⟩
        case round =>
          obtain ⟨i, m, p, rs, out, hi, rfl, rfl, hk, hmi, hmq, hout, hX, hMb, hR, hb⟩ := hrel
          clear hXW hMW hRW hbW
          have hbs := hb.size
          obtain ⟨Ax, cx, rfl, hcx, hrd⟩ := hk.told
          have kX := (hX.cell 0).trans (show (#[Value.slice A n c] : Array Value)[0]? = some (.slice A n c) from rfl)
          have kM0 := (hMb.cell 0).trans (show (#[Value.string nm, .slice A2 n2 c2] : Array Value)[0]? = some (.string nm) from rfl)
          have kM1 := (hMb.cell 1).trans (show (#[Value.string nm, .slice A2 n2 c2] : Array Value)[1]? = some (.slice A2 n2 c2) from rfl)
          by_cases hlt : i < n
          · obtain ⟨ad, q, A', n', c', B', rs', rfl, hbl, hx, hRq0, d1, d2, d3⟩ := InK.at_ HK.out hlt
            have hRq := hRq0.below hb
            have Hc := hide (fun (wx : World) (hbx : Below w.heap.size w wx) => And.intro ((hbx.cell (p := ad.add (i * 3)) (by rw [block_of_add]; exact hbl)).trans d1) (And.intro ((hbx.cell (p := ⟨(ad.add (i * 3)).block, (ad.add (i * 3)).off + 1, none⟩) (by simp only [block_of_add]; exact hbl)).trans d2) ((hbx.cell (p := ⟨(ad.add (i * 3)).block, (ad.add (i * 3)).off + 2, none⟩) (by simp only [block_of_add]; exact hbl)).trans d3)))
            clear d1 d2 d3 hRq0 hbl
            have hd := hout.out
            rw [HD.out i q p hx] at hd
            obtain ⟨x, kr, kb⟩ := q
            simp only [] at Hc hRq hd
            obtain ⟨c1, c2', c3⟩ := Hc.out wr hb
            have hfit : KFit wr (x, .slice A' n' c', kb) (x, kr, kb) := ⟨rfl, rfl, A', n', c', B', rs', rfl, hRq⟩
            have hfitN : KFit wr (nm, .slice A2 n2 c2, gd) (nm, rl, gd) := ⟨rfl, rfl, A2, n2, c2, B2, rs2, rfl, hR⟩
            clear hrd hx hout HD HK hRq
            cases p with
            | true =>
              rw [if_neg (by simp)] at hd
              have Ho := hide (show (out ++ [(x, kr, kb)]) ++ insX (nm, rl, gd) true (l.drop (i + 1)) = M by rw [← hd]; simp)
              clear hd hfitN
              go_wp2_with (first
                | (at_builtin
                   refine wpList_append_any _ rfl (.tmp 61) (.tmp 69) _ rfl w.heap.size 60 i0 _ 3 48 Try.underlying27 hi0 hz0 hz1 hz2 rfl (by omega) _ (m) (kcs rs) rfl
                     (own_below hk.1 (alloc_b (.cells #[.string x, .slice A' n' c', .bool kb] 60))) _ _ 1 _ _ rfl (reads_known wr x A' n' c' kb _ _ rfl) (one_known _ _ _ _ _) (by unfold maxLen; omega) (by omega) (by simp; omega) ?_
                   intro u1 y1 hown1 hg1 _
                   have hA1 := alloc_b (w := wr) (.cells #[.string x, .slice A' n' c', .bool kb] 60)
                   have hk1 : Kns y1 w.heap.size u1 (m + 1) _ _ := (hk.below hA1).cat (AllK.one (hfit.below hA1)) hown1 hg1
                   have ho1 := (hk.below hA1).1
                   have hb1 : Below w.heap.size w y1 := (hb.trans (hA1.mono hbs)).grown hg1 (Nat.le_trans hbs hA1.size) (fun k hk => (ho1.lt k hk).1)
                   have hX1 : Blk y1 g 29 _ := (hX.below hA1 hX.lt).grown hg1 (fun e => by have := (ho1.lt _ e.symm).1; omega)
                   have hM1 : Blk y1 b7 38 _ := (hMb.below hA1 hMb.lt).grown hg1 (farT_own ho1 (T := 38) (by decide) _ _ _ (hMb.below hA1 hMb.lt))
                   have hR1 := (hR.below hA1).far (farT_own ho1 (by decide)) (farT_own ho1 (by decide)) (farT_own ho1 (by decide)) hg1
                   have hbs1 := hb1.size
                   obtain ⟨Au1, cu1, rfl, _, _⟩ := hk1.told))
              go_roundw
              case rel => exact ⟨i + 1, m + 1, true, _, _, by omega, by go_num, rfl, hk1, by omega, hide (fun h => by cases h), Ho, hX1, hM1, hR1, hb1⟩
              case measure => simp [RowKit.intOf]; omega
            | false =>
              have hmi2 := hmq.out rfl
              cases f : Op.bytesLess nm.toList x.toList with
              | true =>
                rw [if_pos ⟨rfl, f⟩] at hd
                have Ho := hide (show ((out ++ [(nm, rl, gd)]) ++ [(x, kr, kb)]) ++ insX (nm, rl, gd) true (l.drop (i + 1)) = M by rw [← hd]; simp)
                clear hd
                go_wp2_with (first
                  | (at_builtin
                     refine wpList_append_any _ rfl (.tmp 61) (.tmp 69) _ rfl w.heap.size 60 i0 _ 3 48 Try.underlying27 hi0 hz0 hz1 hz2 rfl (by omega) _ (m + 1) (kcs (rs ++ [(nm, .slice A2 n2 c2, gd)])) rfl
                       (own_below hk1.1 (alloc_b (.cells #[.string x, .slice A' n' c', .bool kb] 60))) _ _ 1 _ _ rfl (reads_known y1 x A' n' c' kb _ _ rfl) (one_known _ _ _ _ _) (by unfold maxLen; omega) (by omega) (by simp; omega) ?_
                     intro u2 y2 hown2 hg2 _
                     have hA2 := alloc_b (w := y1) (.cells #[.string x, .slice A' n' c', .bool kb] 60)
                     have hk2 : Kns y2 w.heap.size u2 (m + 1 + 1) _ _ := (hk1.below hA2).cat (AllK.one (hfit1.below hA2)) hown2 hg2
                     have ho2 := (hk1.below hA2).1
                     have hb2 : Below w.heap.size w y2 := (hb1.trans (hA2.mono hbs1)).grown hg2 (Nat.le_trans hbs1 hA2.size) (fun k hk => (ho2.lt k hk).1)
                     have hX2 : Blk y2 g 29 _ := (hX1.below hA2 hX1.lt).grown hg2 (fun e => by have := (ho2.lt _ e.symm).1; omega)
                     have hM2 : Blk y2 b7 38 _ := (hM1.below hA2 hM1.lt).grown hg2 (farT_own ho2 (T := 38) (by decide) _ _ _ (hM1.below hA2 hM1.lt))
                     have hR2 := (hR1.below hA2).far (farT_own ho2 (by decide)) (farT_own ho2 (by decide)) (farT_own ho2 (by decide)) hg2
                     have hbs2 := hb2.size
                     obtain ⟨Au2, cu2, rfl, _, _⟩ := hk2.told)
                  | (at_builtin
                     refine wpList_append_any _ rfl (.tmp 55) (.tmp 59) _ rfl w.heap.size 60 i0 _ 3 48 Try.underlying27 hi0 hz0 hz1 hz2 rfl (by omega) _ (m) (kcs rs) rfl
                       (own_below hk.1 (alloc_b (.cells #[.string nm, .slice A2 n2 c2, .bool gd] 60))) _ _ 1 _ _ rfl (reads_known wr nm A2 n2 c2 gd _ _ rfl) (one_known _ _ _ _ _) (by unfold maxLen; omega) (by omega) (by simp; omega) ?_
                     intro u1 y1 hown1 hg1 _
                     have hA1 := alloc_b (w := wr) (.cells #[.string nm, .slice A2 n2 c2, .bool gd] 60)
                     have hk1 : Kns y1 w.heap.size u1 (m + 1) _ _ := (hk.below hA1).cat (AllK.one (hfitN.below hA1)) hown1 hg1
                     have ho1 := (hk.below hA1).1
                     have hb1 : Below w.heap.size w y1 := (hb.trans (hA1.mono hbs)).grown hg1 (Nat.le_trans hbs hA1.size) (fun k hk => (ho1.lt k hk).1)
                     have hX1 : Blk y1 g 29 _ := (hX.below hA1 hX.lt).grown hg1 (fun e => by have := (ho1.lt _ e.symm).1; omega)
                     have hM1 : Blk y1 b7 38 _ := (hMb.below hA1 hMb.lt).grown hg1 (farT_own ho1 (T := 38) (by decide) _ _ _ (hMb.below hA1 hMb.lt))
                     have hR1 := (hR.below hA1).far (farT_own ho1 (by decide)) (farT_own ho1 (by decide)) (farT_own ho1 (by decide)) hg1
                     have hbs1 := hb1.size
                     obtain ⟨Au1, cu1, rfl, _, _⟩ := hk1.told
                     have hfit1 := (hfit.below hA1).far (farT_own ho1 (by decide)) (farT_own ho1 (by decide)) (farT_own ho1 (by decide)) hg1
                     have kX1 := (hX1.cell 0).trans (show (#[Value.slice (some ad) n c] : Array Value)[0]? = some (.slice (some ad) n c) from rfl)
                     obtain ⟨c1', c2x, c3'⟩ := Hc.out y1 hb1))
                go_roundw
                case rel => exact ⟨i + 1, m + 1 + 1, true, _, _, by omega, by go_num, rfl, hk2, by omega, hide (fun h => by cases h), Ho, hX2, hM2, hR2, hb2⟩
                case measure => simp [RowKit.intOf]; omega
              | false =>
                rw [if_neg (fun h => by have h2 : Op.bytesLess nm.toList x.toList = true := h.2; rw [f] at h2; cases h2)] at hd
                have Ho := hide (show (out ++ [(x, kr, kb)]) ++ insX (nm, rl, gd) false (l.drop (i + 1)) = M by rw [← hd]; simp)
                clear hd hfitN
                go_wp2_with (first
                  | (at_builtin
                     refine wpList_append_any _ rfl (.tmp 61) (.tmp 69) _ rfl w.heap.size 60 i0 _ 3 48 Try.underlying27 hi0 hz0 hz1 hz2 rfl (by omega) _ (m) (kcs rs) rfl
                       (own_below hk.1 (alloc_b (.cells #[.string x, .slice A' n' c', .bool kb] 60))) _ _ 1 _ _ rfl (reads_known wr x A' n' c' kb _ _ rfl) (one_known _ _ _ _ _) (by unfold maxLen; omega) (by omega) (by simp; omega) ?_
                     intro u1 y1 hown1 hg1 _
                     have hA1 := alloc_b (w := wr) (.cells #[.string x, .slice A' n' c', .bool kb] 60)
                     have hk1 : Kns y1 w.heap.size u1 (m + 1) _ _ := (hk.below hA1).cat (AllK.one (hfit.below hA1)) hown1 hg1
                     have ho1 := (hk.below hA1).1
                     have hb1 : Below w.heap.size w y1 := (hb.trans (hA1.mono hbs)).grown hg1 (Nat.le_trans hbs hA1.size) (fun k hk => (ho1.lt k hk).1)
                     have hX1 : Blk y1 g 29 _ := (hX.below hA1 hX.lt).grown hg1 (fun e => by have := (ho1.lt _ e.symm).1; omega)
                     have hM1 : Blk y1 b7 38 _ := (hMb.below hA1 hMb.lt).grown hg1 (farT_own ho1 (T := 38) (by decide) _ _ _ (hMb.below hA1 hMb.lt))
                     have hR1 := (hR.below hA1).far (farT_own ho1 (by decide)) (farT_own ho1 (by decide)) (farT_own ho1 (by decide)) hg1
                     have hbs1 := hb1.size
                     obtain ⟨Au1, cu1, rfl, _, _⟩ := hk1.told))
                go_roundw
                case rel => exact ⟨i + 1, m + 1, false, _, _, by omega, by go_num, rfl, hk1, by omega, hide (fun _ => by omega), Ho, hX1, hM1, hR1, hb1⟩
                case measure => simp [RowKit.intOf]; omega
          · have hi2 : i = n := by omega
            have hd := hout.out
            rw [List.drop_of_length_le (by have := Hlen.out; omega)] at hd
            have fX := hX.frozen 0
            clear hout HD HK hi2
            cases p with
            | true =>
              have e : Hid (out = M) := hide (by rw [← hd]; simp [insX])
              clear hd
              go_wp2
              have hXs := hX.set_ 0 (.slice Ax m cx)
              have hgs := only_setCell (p := ⟨g, 0, none⟩) (only_self wr g) (.inl rfl) (.slice Ax m cx)
              have hKs := hrd.far (farT_blk hX (by decide)) (farT_blk hX (by decide)) (farT_blk hX (by decide)) (farT_blk hX (by decide)) hgs
              go_ret
              refine ⟨by rw [E.out]; rfl, ?_, only_both (only_of_below hb _) hgs⟩
              rw [HP.out, ← e.out]
              exact ⟨Ax, m, cx, hXs, hKs⟩
            | false =>
              have hmi2 := hmq.out rfl
              have e : Hid (out ++ [(nm, rl, gd)] = M) := hide (by rw [← hd]; simp [insX])
              have hfitN : KFit wr (nm, .slice A2 n2 c2, gd) (nm, rl, gd) := ⟨rfl, rfl, A2, n2, c2, B2, rs2, rfl, hR⟩
              clear hd
              go_wp2_with (first
                | (at_builtin
                   refine wpList_append_any _ rfl (.tmp 73) (.tmp 77) _ rfl w.heap.size 60 i0 _ 3 48 Try.underlying27 hi0 hz0 hz1 hz2 rfl (by omega) _ (m) (kcs rs) rfl
                     (own_below hk.1 (alloc_b (.cells #[.string nm, .slice A2 n2 c2, .bool gd] 60))) _ _ 1 _ _ rfl (reads_known wr nm A2 n2 c2 gd _ _ rfl) (one_known _ _ _ _ _) (by unfold maxLen; omega) (by omega) (by simp; omega) ?_
                   intro u1 y1 hown1 hg1 _
                   have hA1 := alloc_b (w := wr) (.cells #[.string nm, .slice A2 n2 c2, .bool gd] 60)
                   have hk1 : Kns y1 w.heap.size u1 (m + 1) _ _ := (hk.below hA1).cat (AllK.one (hfitN.below hA1)) hown1 hg1
                   have ho1 := (hk.below hA1).1
                   have hb1 : Below w.heap.size w y1 := (hb.trans (hA1.mono hbs)).grown hg1 (Nat.le_trans hbs hA1.size) (fun k hk => (ho1.lt k hk).1)
                   have hX1 : Blk y1 g 29 _ := (hX.below hA1 hX.lt).grown hg1 (fun e => by have := (ho1.lt _ e.symm).1; omega)
                   have hM1 : Blk y1 b7 38 _ := (hMb.below hA1 hMb.lt).grown hg1 (farT_own ho1 (T := 38) (by decide) _ _ _ (hMb.below hA1 hMb.lt))
                   have hR1 := (hR.below hA1).far (farT_own ho1 (by decide)) (farT_own ho1 (by decide)) (farT_own ho1 (by decide)) hg1
                   have hbs1 := hb1.size
                   obtain ⟨Au1, cu1, rfl, _, _⟩ := hk1.told
                   have fX1 := hX1.frozen 0
                   have kX1 := (hX1.cell 0).trans (show (#[Value.slice A n c] : Array Value)[0]? = some (.slice A n c) from rfl)))
              have hXs := hX1.set_ 0 (.slice Au1 (m + 1) cu1)
              have hgs := only_setCell (p := ⟨g, 0, none⟩) (only_self y1 g) (.inl rfl) (.slice Au1 (m + 1) cu1)
              obtain ⟨A9, c9, e9, _, hrd1⟩ := hk1.told
              injection e9 with e1 e2 e3
              subst e1
              have hKs := hrd1.far (farT_blk hX1 (by decide)) (farT_blk hX1 (by decide)) (farT_blk hX1 (by decide)) (farT_blk hX1 (by decide)) hgs
              go_ret
              refine ⟨by rw [E.out]; rfl, ?_, only_both (only_of_below hb1 _) hgs⟩
              rw [HP.out, ← e.out]
              exact ⟨_, _, _, hXs, hKs⟩
    · have hz : (8192 : Int) < (s.size : Int) := by omega
      have E : Hid (errX l nm bd = 1) := hide (by unfold errX; rw [if_pos (by rw [hmay, decide_eq_false h8]; rfl)])
      clear hmay hlen HH HR Hnew bX hK hval hln h8
      go_enter Try.func9, Try.ntmps9
      go_wp2_with (first
        | (go_at_call 22
           refine HW.out.mono ?_
           rintro e w1 ⟨rfl, hb1⟩))
      go_ret
      exact putsD_same H.out E.out (by decide) hb1 rfl
end Go.Proofs.Ytaiinbkfllafiaa.Index
/-
  The contract of the document's Of; the chapter's example (awake): it holds. Condition: entries as many as may be walked, their names of at most 1,000,000,000 bytes.
-/
namespace Go.Proofs.Ytaiinbkfllafiaa.Index
open Go Go.RowKit Go.Lib Go.Proofs.Ytaiinbkfllafiaa.Span Go.Proofs.Ytaiinbkfllafiaa.Need Go.Proofs.Ytaiinbkfllafiaa.Mani Go.Proofs.Ytaiinbkfllafiaa.Wire Go.Proofs.Ytaiinbkfllafiaa.Depot
open Go.Proofs.Ytaiinbkfllafiaa.Label (runes fitL)
set_option linter.unusedVariables false
theorem may_one : mayX (str [97]) [] = true := by
  unfold mayX
  rw [Wire.fit_one]
  decide
theorem err_one : errX [] (str [97]) [] = 0 := by
  unfold errX
  rw [if_neg (by rw [may_one]; simp), if_neg (by simp [atX])]
theorem good_none : goodE (str [97]) [] = false := by
  unfold goodE
  have : errB [] ≠ 0 := by decide
  rw [decide_eq_false this]
  rfl
set_option maxHeartbeats 4000000 in
set_option maxRecDepth 100000 in
theorem refOfX_any (l : List En) (A : Option Addr) (n c : Nat) (w : World) (h : EnOn w A n l) (hn : n ≤ 100000) (hl : ∀ e ∈ l, e.1.size ≤ 1000000000 ∧ e.2.length ≤ 1000000000) :
    Calls Try.prog 13 #[.slice A n c] w fun e w' => ∃ A' n' c', e = .returned (.agg #[.slice A' n' c']) ∧ InK w' A' n' (putsX [] l) ∧ Below w.heap.size w w' := by
  have Hlen := hide h.len
  have b2 := (Blk.new w 29 #[.slice none 0 0]).alloc (.cells #[.slice none 0 0] 29)
  have b3 := Blk.new (w.alloc (.cells #[.slice none 0 0] 29)) 29 #[.slice none 0 0]
  rw [World.size_alloc] at b3
  have hw0 : Below w.heap.size w ((w.alloc (.cells #[.slice none 0 0] 29)).alloc (.cells #[.slice none 0 0] 29)) := ((Below.refl _ _).alloc (Nat.le_refl _) _).alloc (by simp) _
  go_enter Try.func13, Try.ntmps13
  go_wp2
  go_loopw [4] (fun v wr => ∃ (i : Nat), i ≤ n ∧ v = .int .i64 (i : Int) ∧ Doc wr (w.heap.size + 1) (putsX [] (l.take i)) ∧ Blk wr w.heap.size 29 #[.slice none 0 0] ∧ Below w.heap.size w wr) (fun v _ => n - (RowKit.intOf v).toNat)
  case atStart => exact ⟨0, by omega, rfl, ⟨none, 0, 0, b3, InK.nil _⟩, b2, hw0⟩
  case round =>
    obtain ⟨i, hi, rfl, hD, hk, hb⟩ := hrel
    have hbs := hb.size
    clear b2 b3 hw0
    by_cases hlt : i < n
    · obtain ⟨ad, q, A', n', c', rfl, hbl, hx, hs, c1, c2⟩ := PIn.at_ (EnIn.below h hb) hlt
      have hnm := hl q (List.mem_of_getElem? hx)
      have hst := putsX_take (l := []) hx
      have hplen := putsX_len [] (l.take i)
      have htl : (l.take i).length ≤ i := by rw [List.length_take]; omega
      have hpl : (putsX [] (l.take i)).length ≤ 100000 := by
        have e0 : ([] : List Kn).length = 0 := rfl
        omega
      obtain ⟨x, s⟩ := q
      simp only [] at c1 c2 hnm hst
      have hrd : Reads wr w.heap.size 1 A' n' (bcs s) := hs
      have HP := hide (fun (wx : World) (hx : Below wr.heap.size wr wx) => refPutX_any (w.heap.size + 1) _ x s wx (hD.below hx) hpl hnm.1 hnm.2)
      unfold PutsD at HP
      have hcv := conv_of (c := c') hrd
      have hcv2 := conv_of (c := c') hrd.drew
      have hi1 : (0 : Int) ≤ (i : Int) := by omega
      have hi2 : (i : Int) < (n : Int) := by omega
      have Hst := hide hst
      clear hst hplen htl hpl hx hs hnm
      generalize putsX [] (l.take i) = X at *
      go_upto_region 5 with fail
      go_region_held3 (fun w' => w'.cell? (ad.add (i * 2)) = some (.string x) ∧ w'.cell? ⟨(ad.add (i * 2)).block, (ad.add (i * 2)).off + 1, none⟩ = some (.slice A' n' c') ∧ (convert 32 9 (.slice A' n' c')).run Try.prog w' = .ok (.string (str s)) w') (first | exact ⟨e1, e2, e3⟩ | exact ⟨c1, c2, hcv2⟩ | go_keep)
        (first
          | (go_at_call 9
             refine (HP.out _ ?_).mono ?_
             · exact (Below.refl _ _).drew
             rintro e w2 ⟨rfl, hD2, hg2⟩
             have hb2 : Below w.heap.size w w2 := (hb.drew).grown hg2 hbs (fun k hk => by injection hk with hk; omega)
             have hg2' : wr.grownBy w2 (some (w.heap.size + 1)) := only_both (only_of_below ((Below.refl _ _).drew) _) hg2
             have hbk : Below w.heap.size wr w2 := (Below.refl _ _).grown hg2' hbs (fun k hk => by injection hk with hk; omega)
             have e1 := (hbk.cell (p := ad.add (i * 2)) (by rw [block_of_add]; exact hbl)).trans c1
             have e2 := (hbk.cell (p := ⟨(ad.add (i * 2)).block, (ad.add (i * 2)).off + 1, none⟩) (by simp only [block_of_add]; exact hbl)).trans c2
             have e3 := conv_of (c := c') (hrd.below hbk)))
      have hk2 := hk.grown hg2' (by intro e; injection e with e; omega)
      go_wp2
      go_roundw
      case rel => exact ⟨i + 1, by omega, by go_num, by rw [Hst.out]; exact hD2, hk2, hb2⟩
      case measure => simp [RowKit.intOf]; omega
    · have hi2 : i = n := by omega
      subst hi2
      rw [List.take_of_length_le (by rw [Hlen.out]; exact Nat.le_refl _)] at hD
      obtain ⟨A', n', c', bX, hK⟩ := hD
      have kX := (bX.cell 0).trans (show (#[Value.slice A' n' c'] : Array Value)[0]? = some (.slice A' n' c') from rfl)
      have k2 := (hk.cell 0).trans (show (#[Value.slice none 0 0] : Array Value)[0]? = some (.slice none 0 0) from rfl)
      have f2 := hk.frozen 0
      go_wp2
      have hblk := hk.set_ 0 (.slice A' n' c')
      have hgs := only_setCell (p := ⟨w.heap.size, 0, none⟩) (only_self wr w.heap.size) (.inl rfl) (.slice A' n' c')
      have hKs := hK.far (farT_blk hk (by decide)) (farT_blk hk (by decide)) (farT_blk hk (by decide)) (farT_blk hk (by decide)) hgs
      refine bodyPost_ret (results_cell_row rfl _ _ w.heap.size 29 _ (0, 0) _ rfl hblk Try.underlying29 rfl rfl) rfl ?_
      exact ⟨A', n', c', rfl, hKs, hb.setCell (p := ⟨w.heap.size, 0, none⟩) (Nat.le_refl _) _⟩
set_option maxHeartbeats 4000000 in
set_option maxRecDepth 100000 in
theorem awakeX_any (w : World) : Calls Try.prog 6 #[] w (Tells w (.bool true)) := by
  unfold Tells
  have HN := hide (new_any w)
  have hnm : (str [97]).size ≤ 1000000000 := by decide
  have HP := hide (fun (l : List Kn) (wx : World) (B g : Nat) (h : IdxB wx B g l) (hl : RisesK l) (hlen : l.length ≤ 100000) => putB_any g l (str [97]) [] none 0 0 B wx h hl hlen Reads.none_ hnm)
  have HG := hide (fun (l : List Kn) (wx : World) (g : Nat) (mo : Option Nat) (h : Idx wx g mo l) (hl : FineX l) => get_any g mo l (str [97]) wx h hl hnm)
  unfold Gots at HG
  have HH := hide (fun (l : List Kn) (wx : World) (g : Nat) (mo : Option Nat) (h : Idx wx g mo l) => has_any g mo l (str [97]) wx h hnm)
  obtain ⟨l1, hl1⟩ : ∃ l1, l1 = putX [] (str [97]) [] := ⟨_, rfl⟩
  have r1 : Hid (RisesK l1) := hide (by rw [hl1]; exact putX_rises List.Pairwise.nil _ _)
  have f1 : Hid (FineX l1) := hide (by rw [hl1]; exact FineX.nil.put _ _)
  have n1 : Hid (l1.length ≤ 100000) := hide (by rw [hl1, putX_len]; split <;> simp)
  have a1 : atX l1 (str [97]) = some (valX (str [97]) []) := by rw [hl1, putX_at List.Pairwise.nil, if_pos ⟨err_one, rfl⟩]
  have g1 : getX l1 (str [97]) = valX (str [97]) [] := by unfold getX; rw [a1]; rfl
  have v1 : (getX l1 (str [97])).2 = false := by rw [g1]; exact good_none
  have e1 : errX l1 (str [97]) [] = 6 := by unfold errX; rw [if_neg (by rw [may_one]; simp), if_pos (by rw [a1]; rfl)]
  have h1 : (atX l1 (str [97])).isSome = true := by rw [a1]; rfl
  have HP0 := hide (fun (wx : World) (B g : Nat) (h : IdxB wx B g []) => (HP.out [] wx B g h List.Pairwise.nil (by simp)))
  have HP1 := hide (fun (wx : World) (B g : Nat) (h : IdxB wx B g l1) => (HP.out l1 wx B g h r1.out n1.out))
  have HG1 := hide (fun (wx : World) (g : Nat) (mo : Option Nat) (h : Idx wx g mo l1) => HG.out l1 wx g mo h f1.out)
  have HH1 := hide (fun (wx : World) (g : Nat) (mo : Option Nat) (h : Idx wx g mo l1) => HH.out l1 wx g mo h)
  rw [err_one, ← hl1] at HP0
  rw [e1] at HP1
  rw [v1] at HG1
  rw [h1] at HH1
  clear HP HG HH hl1 a1 g1 v1 e1 h1 r1 f1 n1 hnm
  go_enter Try.func6, Try.ntmps6
  go_wp2_with (first
    | (go_at_call 8
       have g5 := hI4
       refine (HP1.out _ w.heap.size _ hI4).mono ?_
       rintro e w5 ⟨rfl, hI5, hb5⟩
       have hw5 := hw4.trans hb5)
    | (go_at_call 15
       refine (HH1.out _ _ _ hx4).mono ?_
       rintro e w4' ⟨rfl, rfl⟩)
    | (go_at_call 11
       refine (HG1.out _ _ _ hx2).mono ?_
       rintro e w3 ⟨A3, n3, c3, B3, rs3, rfl, hR3, hb3⟩
       have hI4 := (hI2.below hb3).below (alloc_b (.cells #[.string (str [97]), .slice A3 n3 c3] 38))
       have hw4 := (hw2.trans (hb3.mono hw2.size)).alloc (Nat.le_trans hw2.size hb3.size) (.cells #[.string (str [97]), .slice A3 n3 c3] 38)
       have hI4c := hI4
       obtain ⟨_, mo4, hx4, _⟩ := hI4c)
    | (go_at_call 8
       refine (HP0.out _ w.heap.size _ hI1).mono ?_
       rintro e w2 ⟨rfl, hI2, hb2⟩
       have hw2 := hb1.trans hb2
       have hI2c := hI2
       obtain ⟨_, mo2, hx2, _⟩ := hI2c)
    | (go_at_call 7
       refine HN.out.mono ?_
       rintro e w1 ⟨rfl, hI0, hb1⟩
       have hI1 : IdxB w1 w.heap.size w.heap.size [] := ⟨Nat.le_refl _, none, hI0, fun b e => by cases e⟩))
  go_ret
  exact ⟨rfl, hw5⟩
end Go.Proofs.Ytaiinbkfllafiaa.Index
/-
  The contract of the law's own Same: an index that knows what the document's knows is told to. Condition: lists and names of a length that may be walked.
-/
namespace Go.Proofs.Ytaiinbkfllafiaa.Index
open Go Go.RowKit Go.Lib Go.Proofs.Ytaiinbkfllafiaa.Span Go.Proofs.Ytaiinbkfllafiaa.Need Go.Proofs.Ytaiinbkfllafiaa.Mani Go.Proofs.Ytaiinbkfllafiaa.Wire Go.Proofs.Ytaiinbkfllafiaa.Depot
set_option linter.unusedVariables false
theorem namesX_at {l : List Kn} {i : Nat} {x : ByteArray} (h : (namesX l)[i]? = some x) : ∃ q, l[i]? = some q ∧ q.1 = x := by
  unfold namesX at h
  rw [List.getElem?_map] at h
  exact Option.map_eq_some_iff.1 h
theorem drew_b (w : World) : Below w.heap.size w w.drew := (Below.refl _ _).drew
set_option maxHeartbeats 16000000 in
set_option maxRecDepth 100000 in
theorem sameL_any (g : Nat) (mo : Option Nat) (l : List Kn) (A : Option Addr) (n c : Nat) (nm : ByteArray) (w : World) (h : Idx w g mo l) (hK : InK w A n l) (hr : RisesK l) (hf : FineX l) (hs : ShortX l) (hn : n ≤ 100000) (hnm : nm.size ≤ 1000000000) :
    Calls Try.prog 12 #[.pointer (some ⟨g, 0, none⟩), .agg #[.slice A n c], .string nm] w (Tells w (.bool true)) := by
  have hlen := hK.len
  have hl9 : l.length ≤ 100000 := by omega
  have HNm := hide (fun (wx : World) (hx : Below w.heap.size w wx) => names_any g mo l wx (h.below hx) hr hs hl9)
  unfold MakesT at HNm
  have HNr := hide (fun (wx : World) (hx : Below w.heap.size w wx) => refNamesX_any l A n c wx (hK.below hx) hn)
  unfold MakesT at HNr
  have HN2 := hide (fun (A1 A2 : Option Addr) (n1 c1 c2 : Nat) (wx : World) (h1 : TxOn wx A1 n1 (namesX l)) (h2 : TxOn wx A2 n1 (namesX l)) (hh : n1 ≤ 140737488355328) => names2_yes (namesX l) A1 A2 n1 c1 n1 c2 wx h1 h2 hh)
  unfold Tells at HN2
  have HLn := hide (fun (wx : World) (hx : Below w.heap.size w wx) => len_any g mo l wx (h.below hx))
  have HHp := hide (fun (x : ByteArray) (hx9 : x.size ≤ 1000000000) (wx : World) (hx : Below w.heap.size w wx) => has_any g mo l x wx (h.below hx) hx9)
  have HHr := hide (fun (x : ByteArray) (wx : World) (hx : Below w.heap.size w wx) => refHas_any l x A n c wx (hK.below hx) (by omega))
  unfold Tells at HHr
  have HG := hide (fun (x : ByteArray) (hx9 : x.size ≤ 1000000000) (wx : World) (hx : Below w.heap.size w wx) => get_any g mo l x wx (h.below hx) hf hx9)
  unfold Gots at HG
  have HS := hide (fun (x : ByteArray) (A1 : Option Addr) (n1 c1 : Nat) (wx : World) (hx : Below w.heap.size w wx) (h1 : RlOn wx A1 n1 (getX l x).1) => refSameX_yes l x A A1 n c n1 c1 wx (hK.below hx) (by omega) hf h1)
  unfold Tells at HS
  have hat := hide (fun (i : Nat) (q : Kn) (hq : l[i]? = some q) => And.intro (hs q (List.mem_of_getElem? hq)) (show (atX l q.1).isSome = true by rw [atX_mem hr (List.mem_of_getElem? hq)]; rfl))
  have hnl : (namesX l).length = n := by unfold namesX; rw [List.length_map]; exact hlen
  have Hnl := hide hnl
  rw [hlen] at HLn
  have bX := Blk.new w 29 #[.slice A n c]
  have hw0 := alloc_b (w := w) (.cells #[.slice A n c] 29)
  unfold Tells
  clear h hK hr hf hs hlen hl9 hnl
  generalize hW0 : w.alloc (.cells #[.slice A n c] 29) = W0 at *
  have kX0 := (bX.cell 0).trans (show (#[Value.slice A n c] : Array Value)[0]? = some (.slice A n c) from rfl)
  have hys : ∀ y : Bool, (y != y) = false := fun y => by cases y <;> rfl
  have hHr := HHr.out nm
  have hHp := HHp.out nm hnm
  generalize (atX l nm).isSome = y at hHr hHp
  have hy := hys y
  have HHr1 := hide hHr
  have HHp1 := hide hHp
  clear hHr hHp
  go_enter Try.func12, Try.ntmps12
  go_upto_region 1 with fail
  clear hW0
  have hw0s := hw0.size
  go_upto_region 2 with (first
    | (go_at_call 28
       refine (HNr.out _ hw0).mono ?_
       rintro e w1 ⟨A1, n1, c1, rfl, hT1, hb1⟩))
  obtain rfl : n1 = n := by rw [← hT1.len]; exact Hnl.out
  have bX1 := bX.below hb1 bX.lt
  have kX1 := (bX1.cell 0).trans (show (#[Value.slice A n1 c] : Array Value)[0]? = some (.slice A n1 c) from rfl)
  have hw1 := hw0.trans (hb1.mono hw0s)
  clear bX hw0 hw0s hb1 kX0 HNr Hnl
  have hw1s := hw1.size
  have hn14 : n1 ≤ 140737488355328 := by omega
  go_region_held3 (fun w' => w'.cell? ⟨w.heap.size, 0, none⟩ = some (.slice A n1 c)) (first | exact e6 | exact e3 | exact e2 | exact kX1 | go_keep)
    (first
      | (go_at_call 23
         refine (HHr1.out _ hw3).mono ?_
         rintro e w6 ⟨rfl, hb6⟩
         have hw6 := hw3.trans (hb6.mono hw3.size)
         have bX6 := bX3.below hb6 bX3.lt
         have hT6 := hT3.on hb6
         have e6 := (bX6.cell 0).trans (show (#[Value.slice A n1 c] : Array Value)[0]? = some (.slice A n1 c) from rfl))
      | (go_at_call 15
         refine (HHp1.out _ hw3).mono ?_
         rintro e w5 ⟨rfl, rfl⟩)
      | (go_at_call 16
         refine (HLn.out _ hw3).mono ?_
         rintro e w4 ⟨rfl, rfl⟩)
      | (go_at_call 17
         refine (HNm.out _ (hw1.trans ((drew_b w1).mono hw1s))).mono ?_
         rintro e w2 ⟨A2, n2, c2, rfl, hT2, hb2⟩
         obtain rfl : n1 = n2 := by rw [← hT1.len, ← hT2.len]
         have hb2' : Below w1.heap.size w1 w2 := (drew_b w1).trans hb2
         have hT1b := hT1.on hb2'
         have hw2 := hw1.trans (hb2'.mono hw1s)
         have bX2 := bX1.below hb2' bX1.lt
         have e2 := (bX2.cell 0).trans (show (#[Value.slice A n1 c] : Array Value)[0]? = some (.slice A n1 c) from rfl))
      | (go_at_call 29
         refine (HN2.out A2 A1 _ c2 c1 w2 hT2 hT1b hn14).mono ?_
         rintro e w3 ⟨rfl, hb3⟩
         have hw3 := hw2.trans (hb3.mono hw2.size)
         have bX3 := bX2.below hb3 bX2.lt
         have hT3 := hT1b.on hb3
         have e3 := (bX3.cell 0).trans (show (#[Value.slice A n1 c] : Array Value)[0]? = some (.slice A n1 c) from rfl)))
  have HG1 := hide (HG.out nm hnm)
  have HS1 := hide (HS.out nm)
  have hf := trivial
  clear e2 e3 kX1 bX1 bX2 bX3 hw1 hw1s hw2 hw3 hT1 hT2 hT1b hT3 hb2 hb2' hb3 HHr1 HHp1 HNm HN2 HLn hf
  generalize getX l nm = k1 at HG1 HS1
  obtain ⟨r1, b1⟩ := k1
  have hw6s := hw6.size
  go_upto_region 5 with (first
    | (go_at_call 11
       refine (HG1.out _ hw6).mono ?_
       rintro e w7 ⟨A7, n7, c7, B7, rs7, rfl, hR7, hb7⟩))
  obtain ⟨W8, hW8⟩ : ∃ W, W = w7.alloc (.cells #[.string nm, .slice A7 n7 c7] 38) := ⟨_, rfl⟩
  have m8 : Blk W8 w7.heap.size 38 #[.string nm, .slice A7 n7 c7] := by rw [hW8]; exact Blk.new _ _ _
  have hR8 : RlOn W8 A7 n7 r1 := by rw [hW8]; exact (hR7.below (alloc_b _)).on
  have hw8 : Below w.heap.size w W8 := by rw [hW8]; exact (hw6.trans (hb7.mono hw6s)).alloc (Nat.le_trans hw6s hb7.size) _
  have bX8 : Blk W8 w.heap.size 29 #[.slice A n1 c] := by rw [hW8]; exact (bX6.below hb7 bX6.lt).alloc _
  have hT8 : TxOn W8 A1 n1 (namesX l) := by rw [hW8]; exact (hT6.on hb7).on (alloc_b _)
  rw [← hW8]
  clear hW8 hR7 hb7 hw6 hw6s bX6 hT6 e6 hb6 HG1
  have m0 := (m8.cell 0).trans (show (#[Value.string nm, .slice A7 n7 c7] : Array Value)[0]? = some (.string nm) from rfl)
  have m1 := (m8.cell 1).trans (show (#[Value.string nm, .slice A7 n7 c7] : Array Value)[1]? = some (.slice A7 n7 c7) from rfl)
  have kX8 := (bX8.cell 0).trans (show (#[Value.slice A n1 c] : Array Value)[0]? = some (.slice A n1 c) from rfl)
  have HS8 := hide (HS1.out A7 n7 c7 W8 hw8 hR8)
  clear HS1 hR8 m8
  have hw8s := hw8.size
  go_wp2_with (first
    | (go_at_call 30
       refine HS8.out.mono ?_
       rintro e w9 ⟨rfl, hb9⟩))
  have bX9 := bX8.below hb9 bX8.lt
  have hT9 := hT8.on hb9
  have hw9 := hw8.trans (hb9.mono hw8s)
  clear bX8 hT8 hw8 hw8s m0 m1 kX8 HS8 hb9
  go_loopw [10] (fun v wr => ∃ (i : Nat), i ≤ n1 ∧ v = .int .i64 (i : Int) ∧ Blk wr w.heap.size 29 #[.slice A n1 c] ∧ TxOn wr A1 n1 (namesX l) ∧ Below w.heap.size w wr) (fun v _ => n1 - (RowKit.intOf v).toNat)
  case atStart => exact ⟨0, by omega, rfl, bX9, hT9, hw9⟩
  case round =>
    obtain ⟨i, hi, rfl, bX, hT, hb⟩ := hrel
    clear bX9 hT9 hw9
    have hbs := hb.size
    by_cases hlt : i < n1
    · obtain ⟨ad, x, rfl, had, hx, hc⟩ := tcs_at hT hlt
      obtain ⟨q, hq, rfl⟩ := namesX_at hx
      obtain ⟨hq9, hqh⟩ := hat.out i q hq
      have HG1 := hide (HG.out q.1 hq9)
      have HS1 := hide (HS.out q.1)
      have HH1 := HHp.out q.1 hq9
      rw [hqh] at HH1
      have HH2 := hide HH1
      generalize getX l q.1 = k1 at HG1 HS1
      generalize q.1 = x at *
      obtain ⟨r2, b2⟩ := k1
      have hi1 : (0 : Int) ≤ (i : Int) := by omega
      have hi2 : (i : Int) < (n1 : Int) := by omega
      clear hx hq hqh hq9 HG HS HHp HHr HH1 hat
      go_upto_region 11 with (first
        | (go_at_call 11
           refine (HG1.out _ hb).mono ?_
           rintro e w7 ⟨A7, n7, c7, B7, rs7, rfl, hR7, hb7⟩))
      obtain ⟨W8, hW8⟩ : ∃ W, W = w7.alloc (.cells #[.string x, .slice A7 n7 c7] 38) := ⟨_, rfl⟩
      have m8 : Blk W8 w7.heap.size 38 #[.string x, .slice A7 n7 c7] := by rw [hW8]; exact Blk.new _ _ _
      have hR8 : RlOn W8 A7 n7 r2 := by rw [hW8]; exact (hR7.below (alloc_b _)).on
      have hbk8 : Below wr.heap.size wr W8 := by rw [hW8]; exact hb7.alloc hb7.size _
      have hb8 := hb.trans (hbk8.mono hbs)
      have bX8 := bX.below hbk8 bX.lt
      have hT8 := hT.on hbk8
      have hc8 := (hbk8.cell (p := ad.add i) (by rw [block_of_add]; exact had)).trans hc
      rw [← hW8]
      clear hW8 hR7 hb7 HG1
      generalize w7.heap.size = b7 at *
      have m0 := (m8.cell 0).trans (show (#[Value.string x, .slice A7 n7 c7] : Array Value)[0]? = some (.string x) from rfl)
      have m1 := (m8.cell 1).trans (show (#[Value.string x, .slice A7 n7 c7] : Array Value)[1]? = some (.slice A7 n7 c7) from rfl)
      have kX8 := (bX8.cell 0).trans (show (#[Value.slice A n1 c] : Array Value)[0]? = some (.slice A n1 c) from rfl)
      have hd8 : Below w.heap.size w W8.drew := hb8.drew
      have HS8 := hide (HS1.out A7 n7 c7 W8.drew hd8 (hR8.on (drew_b W8)))
      clear HS1 hR8 hc
      have hbl8 : (ad.add i).block < W8.heap.size := by rw [block_of_add]; exact Nat.lt_of_lt_of_le had hbk8.size
      go_region_held3 (fun w' => w'.cell? ⟨w.heap.size, 0, none⟩ = some (.slice A n1 c) ∧ w'.cell? (ad.add i) = some (.string x) ∧ w'.cell? ⟨b7, 0, none⟩ = some (.string x) ∧ w'.cell? ⟨b7, 1, none⟩ = some (.slice A7 n7 c7)) (first | exact ⟨e1, e2, e3, e4⟩ | exact ⟨kX8, hc8, m0, m1⟩ | go_keep)
        (first
          | (go_at_call 15
             refine (HH2.out _ hw9).mono ?_
             rintro e w10 ⟨rfl, rfl⟩)
          | (go_at_call 30
             refine HS8.out.mono ?_
             rintro e w9 ⟨rfl, hb9⟩
             have hbk9 : Below W8.heap.size W8 w9 := (drew_b W8).trans hb9
             have hw9 := hb8.trans (hbk9.mono hb8.size)
             have bX9 := bX8.below hbk9 bX8.lt
             have hT9 := hT8.on hbk9
             have m9 := m8.below hbk9 m8.lt
             have e1 := (bX9.cell 0).trans (show (#[Value.slice A n1 c] : Array Value)[0]? = some (.slice A n1 c) from rfl)
             have e2 := (hbk9.cell hbl8).trans hc8
             have e3 := (m9.cell 0).trans (show (#[Value.string x, .slice A7 n7 c7] : Array Value)[0]? = some (.string x) from rfl)
             have e4 := (m9.cell 1).trans (show (#[Value.string x, .slice A7 n7 c7] : Array Value)[1]? = some (.slice A7 n7 c7) from rfl)))
      go_wp2
      go_roundw
      case rel => exact ⟨i + 1, by omega, by go_num, bX9, hT9, hw9⟩
      case measure => simp [RowKit.intOf]; omega
    · have hi2 : i = n1 := by omega
      clear HG HS HHp HHr hat hT
      go_wp2
      go_ret
      exact ⟨rfl, hb⟩
end Go.Proofs.Ytaiinbkfllafiaa.Index
/-
  The walk of IndexStays. Condition: the slice reads as entries; lengths as a row bounds them.
-/
namespace Go.Proofs.Ytaiinbkfllafiaa.Index
open Go Go.RowKit Go.Lib Go.Proofs.Ytaiinbkfllafiaa.Span Go.Proofs.Ytaiinbkfllafiaa.Need Go.Proofs.Ytaiinbkfllafiaa.Mani Go.Proofs.Ytaiinbkfllafiaa.Wire Go.Proofs.Ytaiinbkfllafiaa.Depot
set_option linter.unusedVariables false
theorem stays_facts (X : List Kn) (hr : RisesK X) (x : ByteArray) (bd : List UInt8) :
    ((atX X x).isSome = true ∧ errX X x bd ≠ 0 ∧ getX (putX X x bd) x = getX X x ∧ (putX X x bd).length = X.length) ∨
    ((atX X x).isSome = false ∧ errX [] x bd = errX X x bd ∧ getX (putX [] x bd) x = getX (putX X x bd) x ∧
      ((errX X x bd = 0 ∧ (putX X x bd).length = X.length + 1 ∧ (atX (putX X x bd) x).isSome = true) ∨ (errX X x bd = 1 ∧ (putX X x bd).length = X.length))) := by
  cases ha : atX X x with
  | some k =>
    have he : errX X x bd ≠ 0 := fun e => by
      have := (errX_zero.1 e).2
      rw [ha] at this
      cases this
    exact .inl ⟨rfl, he, by unfold getX; rw [putX_at hr, if_neg (fun g => he g.1)], by rw [putX_len, if_neg he]; rfl⟩
  | none =>
    refine .inr ⟨rfl, ?_, ?_, ?_⟩
    · unfold errX
      rw [ha]
      rfl
    · have e0 : errX [] x bd = errX X x bd := by unfold errX; rw [ha]; rfl
      unfold getX
      rw [putX_at hr, putX_at List.Pairwise.nil, e0, ha]
      rfl
    · by_cases hm : mayX x bd = true
      · have e : errX X x bd = 0 := errX_zero.2 ⟨hm, ha⟩
        exact .inl ⟨e, by rw [putX_len, if_pos e], by rw [putX_at hr, if_pos ⟨e, rfl⟩]; rfl⟩
      · have e : errX X x bd = 1 := by unfold errX; rw [if_pos (by simpa using hm)]
        exact .inr ⟨e, by rw [putX_len, if_neg (by rw [e]; decide)]; rfl⟩
/-! Contracts at an index whose blocks lie at B or behind. -/
section
variable {g B : Nat} {l : List Kn} {w : World}
theorem hasB_any (nm : ByteArray) (h : IdxB w B g l) (hnm : nm.size ≤ 1000000000) :
    Calls Try.prog 15 #[.pointer (some ⟨g, 0, none⟩), .string nm] w fun e w' => e = .returned (.bool (atX l nm).isSome) ∧ w = w' := by
  obtain ⟨_, mo, h2, _⟩ := h
  exact has_any g mo l nm w h2 hnm
theorem getB_any (nm : ByteArray) (h : IdxB w B g l) (hl : FineX l) (hnm : nm.size ≤ 1000000000) :
    Calls Try.prog 11 #[.pointer (some ⟨g, 0, none⟩), .string nm] w (Gots w nm (getX l nm)) := by
  obtain ⟨_, mo, h2, _⟩ := h
  exact get_any g mo l nm w h2 hl hnm
theorem lenB_any (h : IdxB w B g l) : Calls Try.prog 16 #[.pointer (some ⟨g, 0, none⟩)] w fun e w' => e = .returned (.int .i64 (l.length : Int)) ∧ w = w' := by
  obtain ⟨_, mo, h2, _⟩ := h
  exact len_any g mo l w h2
/-- What a put writes: a row at B or behind, of an index. -/
def Wrote (B : Nat) (w w' : World) : Prop := ∃ row, w.grownBy w' (some row) ∧ B ≤ row ∧ ∀ T, T ≠ 52 → FarT w T (some row)
theorem Wrote.below {w' : World} (h : Wrote B w w') (hB : B ≤ w.heap.size) : Below B w w' := by
  obtain ⟨row, h1, h2, _⟩ := h
  exact (Below.refl _ _).grown h1 hB (fun k hk => by injection hk with hk; omega)
theorem Wrote.blk {w' : World} {p : Nat} {T : TypeId} {cs : Array Value} (h : Wrote B w w') (hp : Blk w p T cs) (hT : T ≠ 52) : Blk w' p T cs := by
  obtain ⟨row, h1, h2, h3⟩ := h
  exact hp.grown h1 (h3 T hT p _ _ hp)
theorem Wrote.rls {w' : World} {B2 n : Nat} {v : Value} {rs : List Vr} {r : List Rl} (h : Wrote B w w') (hr : Rls w B2 v n rs r) : Rls w' B2 v n rs r := by
  obtain ⟨row, h1, h2, h3⟩ := h
  exact hr.far (h3 _ (by decide)) (h3 _ (by decide)) (h3 _ (by decide)) h1
theorem putW_any (nm : ByteArray) (bd : List UInt8) (A : Option Addr) (n c : Nat) (h : IdxB w B g l) (hl : RisesK l) (hlen : l.length ≤ 100000) (hr : Reads w B 1 A n (bcs bd)) (hnm : nm.size ≤ 1000000000) :
    Calls Try.prog 8 #[.pointer (some ⟨g, 0, none⟩), .string nm, .slice A n c] w fun e w' =>
      e = .returned (.int .i64 (errX l nm bd)) ∧ IdxB w' B g (putX l nm bd) ∧ Wrote B w w' := by
  have hle := h.le
  obtain ⟨h1, mo, h2, h3⟩ := h
  refine (put_any g mo l nm bd A n c B w h2 hl hlen hr (IdxB.row h1 h3) hnm).mono ?_
  rintro e w' ⟨he, ⟨mo', h4, h5⟩, hg⟩
  refine ⟨he, ⟨h1, mo', h4, fun b hb => ?_⟩, rowX g mo, hg, IdxB.row h1 h3, fun T hT => h2.farT hT⟩
  rcases h5 with rfl | ⟨_, b', e2, h6⟩
  · exact h3 b hb
  · rw [hb] at e2
    injection e2 with e2
    rw [e2]; exact Nat.le_trans hle h6
end
theorem sameM_self (x : ByteArray) (r : List Rl) (A1 A2 : Option Addr) (n1 c1 n2 c2 : Nat) (w : World) (h1 : RlOn w A1 n1 r) (h2 : RlOn w A2 n2 r) (hf : FineR r) :
    Calls Try.prog 18 #[.agg #[.string x, .slice A1 n1 c1], .agg #[.string x, .slice A2 n2 c2]] w (Tells w (.bool true)) := by
  have := refSameM_any x x r r A1 A2 n1 c1 n2 c2 w h1 h2 hf hf
  rwa [show (decide (x = x) && decide (r = r)) = true by simp] at this
theorem take_bounds (l : List En) (i : Nat) (h30 : l.length ≤ 30) (hs : ∀ q ∈ l, q.1.size ≤ 200 ∧ q.2.length ≤ 9000) :
    RisesK (putsX [] (l.take i)) ∧ FineX (putsX [] (l.take i)) ∧ ShortX (putsX [] (l.take i)) ∧ (putsX [] (l.take i)).length ≤ 30 := by
  refine ⟨putsX_rises List.Pairwise.nil _, FineX.nil.puts _, puts_short ShortX.nil _ fun e he => by have := hs e (List.mem_of_mem_take he); omega, ?_⟩
  have h1 := putsX_len [] (l.take i)
  have h2 : (l.take i).length ≤ l.length := by rw [List.length_take]; omega
  have h3 : ([] : List Kn).length = 0 := rfl
  omega
set_option maxHeartbeats 16000000 in
set_option maxRecDepth 100000 in
theorem stays_walk (l : List En) (A : Option Addr) (n c : Nat) (w : World) (h : EnOn w A n l) (hn : n ≤ 9223372036854775807) :
    Calls Try.prog 4 #[.slice A n c] w fun e w' => e = .returned (.bool true) ∧ Below w.heap.size w w' := by
  have HW := hide (fun wx => awakeX_any wx)
  unfold Tells at HW
  have HL := hide (largeE_any l A n c w h hn)
  unfold Tells at HL
  cases g1 : largeE l with
  | true =>
    rw [g1] at HL
    clear h hn
    go_enter Try.func4, Try.ntmps4
    go_wp2_with (first
      | (go_at_call 6
         refine (HW.out _).mono ?_
         rintro e w2 ⟨rfl, hb2⟩
         have hbw := hb1.trans (hb2.mono hb1.size))
      | (go_at_call 5
         refine HL.out.mono ?_
         rintro e w1 ⟨rfl, hb1⟩))
    go_ret
    exact ⟨rfl, hbw⟩
  | false =>
    rw [g1] at HL
    obtain ⟨h30, hs⟩ := fineE_of g1
    have hlen := h.len
    have hn30 : n ≤ 30 := by omega
    have Hlen := hide hlen
    have Htb := hide (fun i => take_bounds l i h30 hs)
    have HN := hide (fun wx => new_any wx)
    have Hs := hide hs
    clear hlen h30 hn hs g1
    go_enter Try.func4, Try.ntmps4
    go_wp2_with (first
      | (go_at_call 7
         refine (HN.out _).mono ?_
         rintro e w2 ⟨rfl, hI2, hb2⟩
         have hbw2 := hb1.trans (hb2.mono hb1.size))
      | (go_at_call 5
         refine HL.out.mono ?_
         rintro e w1 ⟨rfl, hb1⟩))
    have hI2' : IdxB w2 w.heap.size w1.heap.size [] := ⟨hb1.size, none, hI2, fun b e => by cases e⟩
    clear hI2 hb2 hb1
    generalize w1.heap.size = g at *
    go_loopw [4] (fun v wr => ∃ (i : Nat), i ≤ n ∧ v = .int .i64 (i : Int) ∧ IdxB wr w.heap.size g (putsX [] (l.take i)) ∧ Below w.heap.size w wr) (fun v _ => n - (RowKit.intOf v).toNat)
    case atStart => exact ⟨0, by omega, rfl, hI2', hbw2⟩
    case round =>
      obtain ⟨i, hi, rfl, hI, hb⟩ := hrel
      clear hI2' hbw2
      have hbs := hb.size
      by_cases hlt : i < n
      · obtain ⟨ad, q, A', n', c', rfl, hbl, hx, hs, d1, d2⟩ := PIn.at_ h hlt
        have hq := Hs.out q (List.mem_of_getElem? hx)
        have hst := putsX_take (l := []) hx
        obtain ⟨hr, hf, hsh, hXl⟩ := Htb.out i
        obtain ⟨x, bd⟩ := q
        simp only [] at d1 d2 hq hst
        have Hrd := hide (fun (wx : World) (hbx : Below w.heap.size w wx) => (show Reads w w.heap.size 1 A' n' (bcs bd) from hs).below hbx)
        have Hc := hide (fun (wx : World) (hbx : Below w.heap.size w wx) => And.intro ((hbx.cell (p := ad.add (i * 2)) (by rw [block_of_add]; exact hbl)).trans d1) ((hbx.cell (p := ⟨(ad.add (i * 2)).block, (ad.add (i * 2)).off + 1, none⟩) (by simp only [block_of_add]; exact hbl)).trans d2))
        have hx9 : x.size ≤ 1000000000 := by omega
        have hi1 : (0 : Int) ≤ (i : Int) := by omega
        have hi2 : (i : Int) < (n : Int) := by omega
        have Hst := hide hst
        have Hfacts := hide (stays_facts (putsX [] (l.take i)) hr x bd)
        have hf2 := hf.put x bd
        have hfo : FineX (putX [] x bd) := FineX.nil.put x bd
        have hro : RisesK (putX [] x bd) := putX_rises List.Pairwise.nil _ _
        generalize putsX [] (l.take i) = X at *
        have HF := hide (fun (r : List Rl) (A1 A2 : Option Addr) (n1 c1 n2 c2 : Nat) (wx : World) (h1 : RlOn wx A1 n1 r) (h2 : RlOn wx A2 n2 r) (f : FineR r) => sameM_self x r A1 A2 n1 c1 n2 c2 wx h1 h2 f)
        unfold Tells at HF
        have HH1 := hide (hasB_any x hI hx9)
        have HG1 := hide (getB_any x hI hf hx9)
        have HL1 := hide (fun (wx : World) (hI9 : IdxB wx w.heap.size g X) => lenB_any hI9)
        have HP1 := hide (fun (wx : World) (hI9 : IdxB wx w.heap.size g X) (hr9 : Reads wx w.heap.size 1 A' n' (bcs bd)) => putW_any x bd A' n' c' hI9 hr (by omega) hr9 hx9)
        have HG2 := hide (fun (wx : World) (hI9 : IdxB wx w.heap.size g (putX X x bd)) => getB_any x hI9 hf2 hx9)
        have HL2 := hide (fun (wx : World) (hI9 : IdxB wx w.heap.size g (putX X x bd)) => lenB_any hI9)
        have HH2 := hide (fun (wx : World) (hI9 : IdxB wx w.heap.size g (putX X x bd)) => hasB_any x hI9 hx9)
        have HPo := hide (fun (wx : World) (B9 g9 : Nat) (hI9 : IdxB wx B9 g9 []) (hr9 : Reads wx B9 1 A' n' (bcs bd)) => putB_any g9 [] x bd A' n' c' B9 wx hI9 List.Pairwise.nil (by simp) hr9 hx9)
        have HGo := hide (fun (wx : World) (B9 g9 : Nat) (hI9 : IdxB wx B9 g9 (putX [] x bd)) => getB_any x hI9 hfo hx9)
        have f1 := hf.get x
        have f2 := hf2.get x
        have f3 := hfo.get x
        unfold Gots at HG1 HG2 HGo
        obtain ⟨X2, hX2⟩ : ∃ X2, X2 = putX X x bd := ⟨_, rfl⟩
        obtain ⟨O2, hO2⟩ : ∃ O2, O2 = putX [] x bd := ⟨_, rfl⟩
        rw [← hX2] at HP1 HG2 HL2 HH2 Hfacts Hst f2
        rw [← hO2] at HPo HGo Hfacts f3
        clear hX2 hO2 hr hf hf2 hfo hro hsh hs hx d1 d2 hst Hs Htb h hx9 hq
        generalize getX X x = k1 at *
        generalize getX X2 x = k2 at *
        generalize getX O2 x = k3 at *
        generalize (atX X x).isSome = y at *
        generalize (atX X2 x).isSome = y2 at *
        generalize errX X x bd = ec at *
        generalize errX [] x bd = fo at *
        obtain ⟨r1, b1⟩ := k1
        obtain ⟨r2, b2⟩ := k2
        obtain ⟨r3, b3⟩ := k3
        simp only at HG1 HG2 HGo f1 f2 f3
        obtain ⟨c1, c2⟩ := Hc.out wr hb
        go_upto_region 10 with (first
          | (go_at_call 16
             refine (HL1.out _ hI6).mono ?_
             rintro e w6' ⟨rfl, rfl⟩)
          | (go_at_call 11
             refine HG1.out.mono ?_
             rintro e w5 ⟨A5, n5, c5, B5, rs5, rfl, hR5, hb5⟩
             have hI6 := (hI.below hb5).below (alloc_b (.cells #[.string x, .slice A5 n5 c5] 38))
             obtain ⟨c51, c52⟩ := Hc.out w5 (hb.trans (hb5.mono hbs)))
          | (go_at_call 15
             refine HH1.out.mono ?_
             rintro e w4 ⟨rfl, rfl⟩))
        obtain ⟨W6, hW6⟩ : ∃ W, W = w5.alloc (.cells #[.string x, .slice A5 n5 c5] 38) := ⟨_, rfl⟩
        have mA6 : Blk W6 w5.heap.size 38 #[.string x, .slice A5 n5 c5] := by rw [hW6]; exact Blk.new _ _ _
        have hR6 : Rls W6 B5 (.slice A5 n5 c5) n5 rs5 r1 := by rw [hW6]; exact hR5.below (alloc_b _)
        have hb6 : Below w.heap.size w W6 := by rw [hW6]; exact (hb.trans (hb5.mono hbs)).alloc (Nat.le_trans hbs hb5.size) _
        rw [← hW6] at hI6
        rw [← hW6]
        clear hW6 hR5 hb5 hI hb hbs c1 c2 c51 c52 HH1 HG1 HL1
        generalize w5.heap.size = a6 at *
        obtain ⟨c61, c62⟩ := Hc.out W6 hb6
        have hd6 := hI6.below (drew_b W6)
        have hrd6 := Hrd.out W6.drew hb6.drew
        go_region_held3 (fun w' => w'.cell? (ad.add (i * 2)) = some (.string x) ∧ w'.cell? ⟨(ad.add (i * 2)).block, (ad.add (i * 2)).off + 1, none⟩ = some (.slice A' n' c')) (first | exact Hc.out w7 hb7 | exact ⟨c61, c62⟩ | go_keep)
          (first
            | (go_at_call 8
               refine (HP1.out _ hd6 hrd6).mono ?_
               rintro e w7 ⟨rfl, hI7, hw7⟩
               have hb7 : Below w.heap.size w w7 := hb6.drew.trans (hw7.below hb6.size)))
        have mA7 := hw7.blk (mA6.drew) (by decide)
        have hR7 := hw7.rls (hR6.below (drew_b W6))
        obtain ⟨c71, c72⟩ := Hc.out w7 hb7
        have hb7s := hb7.size
        clear c61 c62 hd6 hrd6 hw7 mA6 hR6 hb6 hI6 HP1
        go_upto_region 12 with (first
          | (go_at_call 11
             refine (HG2.out _ hI7).mono ?_
             rintro e w8 ⟨A8, n8, c8, B8, rs8, rfl, hR8, hb8⟩))
        obtain ⟨W9, hW9⟩ : ∃ W, W = w8.alloc (.cells #[.string x, .slice A8 n8 c8] 38) := ⟨_, rfl⟩
        have mA9 : Blk W9 a6 38 #[.string x, .slice A5 n5 c5] := by rw [hW9]; exact (mA7.below hb8 mA7.lt).alloc _
        have hRA9 : RlOn W9 A5 n5 r1 := by rw [hW9]; exact ((hR7.below hb8).below (alloc_b _)).on
        have mB9 : Blk W9 w8.heap.size 38 #[.string x, .slice A8 n8 c8] := by rw [hW9]; exact Blk.new _ _ _
        have hRB9 : Rls W9 B8 (.slice A8 n8 c8) n8 rs8 r2 := by rw [hW9]; exact hR8.below (alloc_b _)
        have hI9 : IdxB W9 w.heap.size g X2 := by rw [hW9]; exact (hI7.below hb8).below (alloc_b _)
        have hbw9 : Below w.heap.size w W9 := by rw [hW9]; exact (hb7.trans (hb8.mono hb7s)).alloc (Nat.le_trans hb7s hb8.size) _
        rw [← hW9]
        clear hW9 hR8 hb8 hI7 c71 c72 mA7 hR7 hb7 hb7s HG2
        generalize w8.heap.size = a10 at *
        have p0 := (mA9.cell 0).trans (show (#[Value.string x, .slice A5 n5 c5] : Array Value)[0]? = some (.string x) from rfl)
        have p1 := (mA9.cell 1).trans (show (#[Value.string x, .slice A5 n5 c5] : Array Value)[1]? = some (.slice A5 n5 c5) from rfl)
        have o0 := (mB9.cell 0).trans (show (#[Value.string x, .slice A8 n8 c8] : Array Value)[0]? = some (.string x) from rfl)
        have o1 := (mB9.cell 1).trans (show (#[Value.string x, .slice A8 n8 c8] : Array Value)[1]? = some (.slice A8 n8 c8) from rfl)
        have hbw9s := hbw9.size
        obtain ⟨n91, n92⟩ := Hc.out W9 hbw9
        generalize hL0 : X.length = L0 at *
        generalize hL1 : X2.length = L1 at *
        clear hL0 hL1
        rcases Hfacts.out with ⟨ey, hec, ek, eL⟩ | ⟨ey, eo, ek, ⟨ec0, eL, ey2⟩ | ⟨ec1, eL⟩⟩
        · injection ek with ek1 ek2
          subst ey ek1 ek2 eL
          have hec1 : (ec == 0) = false := beq_eq_false_iff_ne.2 hec
          have hL : ((L1 : Int) == (L1 : Int) + 1) = false := beq_eq_false_iff_ne.2 (by omega)
          have hbb : (b2 != b2) = false := by cases b2 <;> rfl
          have HF10 := hide (HF.out r2 A5 A8 n5 c5 n8 c8 W9 hRA9 hRB9.on f2)
          clear hec Hfacts HH2 hRA9 mA9
          go_upto_region 14 with (first
            | (go_at_call 16
               refine (HL2.out _ hI10).mono ?_
               rintro e w10' ⟨rfl, rfl⟩)
            | (go_at_call 18
               refine HF10.out.mono ?_
               rintro e w10 ⟨rfl, hb10⟩
               have hI10 := hI9.below hb10
               have hbw10 := hbw9.trans (hb10.mono hbw9s)
               have mB10 := mB9.below hb10 mB9.lt
               have hRB10 := hRB9.below hb10))
          have hbw10s := hbw10.size
          clear p0 p1 o0 o1 mB9 hRB9 hI9 hbw9 hbw9s hb10 HF10 HL2 n91 n92
          go_upto_region 15 with (first
            | (go_at_call 7
               refine (HN.out w10).mono ?_
               rintro e w11 ⟨rfl, hIo, hb11⟩))
          have hIo1 : IdxB w11 w10.heap.size w10.heap.size [] := ⟨Nat.le_refl _, none, hIo, fun b e => by cases e⟩
          have hbw11 : Below w.heap.size w w11 := hbw10.trans (hb11.mono hbw10s)
          obtain ⟨c111, c112⟩ := Hc.out w11 hbw11
          have hIo2 := hIo1.below (drew_b w11)
          have hrd11 := (Hrd.out w11.drew hbw11.drew).more hbw10s
          clear hIo hIo1
          go_region_held3 (fun w' => w'.cell? (ad.add (i * 2)) = some (.string x) ∧ w'.cell? ⟨(ad.add (i * 2)).block, (ad.add (i * 2)).off + 1, none⟩ = some (.slice A' n' c')) (first | exact Hc.out w12 hbw12 | exact ⟨c111, c112⟩ | go_keep)
            (first
              | (go_at_call 8
                 refine (HPo.out _ w10.heap.size w10.heap.size hIo2 hrd11).mono ?_
                 rintro e w12 ⟨rfl, hIo3, hb12⟩
                 have hbT12 : Below w10.heap.size w10 w12 := hb11.drew.trans hb12
                 have hbw12 : Below w.heap.size w w12 := hbw10.trans (hbT12.mono hbw10s)))
          obtain ⟨c121, c122⟩ := Hc.out w12 hbw12
          clear c111 c112 hIo2 hrd11 hb11 hbw11 hb12 HPo HN
          go_upto_region 17 with (first
            | (go_at_call 11
               refine (HGo.out _ _ _ hIo3).mono ?_
               rintro e w13 ⟨A13, n13, c13, B13, rs13, rfl, hR13, hb13⟩))
          obtain ⟨W14, hW14⟩ : ∃ W, W = w13.alloc (.cells #[.string x, .slice A13 n13 c13] 38) := ⟨_, rfl⟩
          have hbT : Below w10.heap.size w10 W14 := by rw [hW14]; exact (hbT12.trans (hb13.mono hbT12.size)).alloc (Nat.le_trans hbT12.size hb13.size) _
          have mC14 : Blk W14 w13.heap.size 38 #[.string x, .slice A13 n13 c13] := by rw [hW14]; exact Blk.new _ _ _
          have hRC14 : RlOn W14 A13 n13 r3 := by rw [hW14]; exact (hR13.below (alloc_b _)).on
          rw [← hW14]
          clear hW14 hR13 hb13 hbT12 hIo3 c121 c122 hbw12 HGo Hc Hrd
          generalize w13.heap.size = a14 at *
          have hI14 := hI10.below hbT
          have hbw14 : Below w.heap.size w W14 := hbw10.trans (hbT.mono hbw10s)
          have mB14 := mB10.below hbT mB10.lt
          have hRB14 := (hRB10.below hbT).on
          have q0 := (mB14.cell 0).trans (show (#[Value.string x, .slice A8 n8 c8] : Array Value)[0]? = some (.string x) from rfl)
          have q1 := (mB14.cell 1).trans (show (#[Value.string x, .slice A8 n8 c8] : Array Value)[1]? = some (.slice A8 n8 c8) from rfl)
          have s0 := (mC14.cell 0).trans (show (#[Value.string x, .slice A13 n13 c13] : Array Value)[0]? = some (.string x) from rfl)
          have s1 := (mC14.cell 1).trans (show (#[Value.string x, .slice A13 n13 c13] : Array Value)[1]? = some (.slice A13 n13 c13) from rfl)
          have hbw14s := hbw14.size
          clear HF
          go_wp2
          go_roundw
          case rel => exact ⟨i + 1, by omega, by go_num, by rw [Hst.out]; exact hI14, hbw14⟩
          case measure => simp [RowKit.intOf]; omega
        · injection ek with ek1 ek2
          subst ey ec0 ek1 ek2 ey2
          subst eL
          subst eo
          have hL : ((((L0 + 1 : Nat) : Int)) == (L0 : Int) + 1) = true := by simp
          have hL2 : (((L0 : Int) + 1) == (L0 : Int) + 1) = true := by simp
          have hbb : (b3 != b3) = false := by cases b3 <;> rfl
          obtain ⟨w10, hw10⟩ : ∃ w10, w10 = W9 := ⟨_, rfl⟩
          subst hw10
          have hI10 := hI9
          have hbw10 := hbw9
          have mB10 := mB9
          have hRB10 := hRB9
          clear Hfacts hRA9 mA9
          go_upto_region 14 with (first
            | (go_at_call 15
               refine (HH2.out _ hI9).mono ?_
               rintro e w10'' ⟨rfl, rfl⟩)
            | (go_at_call 16
               refine (HL2.out _ hI9).mono ?_
               rintro e w10' ⟨rfl, rfl⟩))
          have hbw10s := hbw10.size
          clear p0 p1 o0 o1 mB9 hRB9 hI9 hbw9 hbw9s HL2 HH2 n91 n92
          go_upto_region 15 with (first
            | (go_at_call 7
               refine (HN.out w10).mono ?_
               rintro e w11 ⟨rfl, hIo, hb11⟩))
          have hIo1 : IdxB w11 w10.heap.size w10.heap.size [] := ⟨Nat.le_refl _, none, hIo, fun b e => by cases e⟩
          have hbw11 : Below w.heap.size w w11 := hbw10.trans (hb11.mono hbw10s)
          obtain ⟨c111, c112⟩ := Hc.out w11 hbw11
          have hIo2 := hIo1.below (drew_b w11)
          have hrd11 := (Hrd.out w11.drew hbw11.drew).more hbw10s
          clear hIo hIo1
          go_region_held3 (fun w' => w'.cell? (ad.add (i * 2)) = some (.string x) ∧ w'.cell? ⟨(ad.add (i * 2)).block, (ad.add (i * 2)).off + 1, none⟩ = some (.slice A' n' c')) (first | exact Hc.out w12 hbw12 | exact ⟨c111, c112⟩ | go_keep)
            (first
              | (go_at_call 8
                 refine (HPo.out _ w10.heap.size w10.heap.size hIo2 hrd11).mono ?_
                 rintro e w12 ⟨rfl, hIo3, hb12⟩
                 have hbT12 : Below w10.heap.size w10 w12 := hb11.drew.trans hb12
                 have hbw12 : Below w.heap.size w w12 := hbw10.trans (hbT12.mono hbw10s)))
          obtain ⟨c121, c122⟩ := Hc.out w12 hbw12
          clear c111 c112 hIo2 hrd11 hb11 hbw11 hb12 HPo HN
          go_upto_region 17 with (first
            | (go_at_call 11
               refine (HGo.out _ _ _ hIo3).mono ?_
               rintro e w13 ⟨A13, n13, c13, B13, rs13, rfl, hR13, hb13⟩))
          obtain ⟨W14, hW14⟩ : ∃ W, W = w13.alloc (.cells #[.string x, .slice A13 n13 c13] 38) := ⟨_, rfl⟩
          have hbT : Below w10.heap.size w10 W14 := by rw [hW14]; exact (hbT12.trans (hb13.mono hbT12.size)).alloc (Nat.le_trans hbT12.size hb13.size) _
          have mC14 : Blk W14 w13.heap.size 38 #[.string x, .slice A13 n13 c13] := by rw [hW14]; exact Blk.new _ _ _
          have hRC14 : RlOn W14 A13 n13 r3 := by rw [hW14]; exact (hR13.below (alloc_b _)).on
          rw [← hW14]
          clear hW14 hR13 hb13 hbT12 hIo3 c121 c122 hbw12 HGo Hc Hrd
          generalize w13.heap.size = a14 at *
          have hI14 := hI10.below hbT
          have hbw14 : Below w.heap.size w W14 := hbw10.trans (hbT.mono hbw10s)
          have mB14 := mB10.below hbT mB10.lt
          have hRB14 := (hRB10.below hbT).on
          have q0 := (mB14.cell 0).trans (show (#[Value.string x, .slice A8 n8 c8] : Array Value)[0]? = some (.string x) from rfl)
          have q1 := (mB14.cell 1).trans (show (#[Value.string x, .slice A8 n8 c8] : Array Value)[1]? = some (.slice A8 n8 c8) from rfl)
          have s0 := (mC14.cell 0).trans (show (#[Value.string x, .slice A13 n13 c13] : Array Value)[0]? = some (.string x) from rfl)
          have s1 := (mC14.cell 1).trans (show (#[Value.string x, .slice A13 n13 c13] : Array Value)[1]? = some (.slice A13 n13 c13) from rfl)
          have hbw14s := hbw14.size
          have HF15 := hide (HF.out r3 A8 A13 n8 c8 n13 c13 W14 hRB14 hRC14 f3)
          clear HF hRB14 hRC14 mB14 mC14
          go_wp2_with (first
            | (go_at_call 18
               refine HF15.out.mono ?_
               rintro e w15 ⟨rfl, hb15⟩))
          have hI15 := hI14.below hb15
          have hbw15 := hbw14.trans (hb15.mono hbw14s)
          go_roundw
          case rel => exact ⟨i + 1, by omega, by go_num, by rw [Hst.out]; exact hI15, hbw15⟩
          case measure => simp [RowKit.intOf]; omega
        · injection ek with ek1 ek2
          subst ey ec1 ek1 ek2
          subst eL
          subst eo
          have hL : (((L1 : Int)) == (L1 : Int) + 1) = false := beq_eq_false_iff_ne.2 (by omega)
          have hbb : (b3 != b3) = false := by cases b3 <;> rfl
          obtain ⟨w10, hw10⟩ : ∃ w10, w10 = W9 := ⟨_, rfl⟩
          subst hw10
          have hI10 := hI9
          have hbw10 := hbw9
          have mB10 := mB9
          have hRB10 := hRB9
          clear Hfacts hRA9 mA9
          go_upto_region 14 with (first
            | (go_at_call 16
               refine (HL2.out _ hI9).mono ?_
               rintro e w10' ⟨rfl, rfl⟩))
          have hbw10s := hbw10.size
          clear p0 p1 o0 o1 mB9 hRB9 hI9 hbw9 hbw9s HL2 HH2 n91 n92
          go_upto_region 15 with (first
            | (go_at_call 7
               refine (HN.out w10).mono ?_
               rintro e w11 ⟨rfl, hIo, hb11⟩))
          have hIo1 : IdxB w11 w10.heap.size w10.heap.size [] := ⟨Nat.le_refl _, none, hIo, fun b e => by cases e⟩
          have hbw11 : Below w.heap.size w w11 := hbw10.trans (hb11.mono hbw10s)
          obtain ⟨c111, c112⟩ := Hc.out w11 hbw11
          have hIo2 := hIo1.below (drew_b w11)
          have hrd11 := (Hrd.out w11.drew hbw11.drew).more hbw10s
          clear hIo hIo1
          go_region_held3 (fun w' => w'.cell? (ad.add (i * 2)) = some (.string x) ∧ w'.cell? ⟨(ad.add (i * 2)).block, (ad.add (i * 2)).off + 1, none⟩ = some (.slice A' n' c')) (first | exact Hc.out w12 hbw12 | exact ⟨c111, c112⟩ | go_keep)
            (first
              | (go_at_call 8
                 refine (HPo.out _ w10.heap.size w10.heap.size hIo2 hrd11).mono ?_
                 rintro e w12 ⟨rfl, hIo3, hb12⟩
                 have hbT12 : Below w10.heap.size w10 w12 := hb11.drew.trans hb12
                 have hbw12 : Below w.heap.size w w12 := hbw10.trans (hbT12.mono hbw10s)))
          obtain ⟨c121, c122⟩ := Hc.out w12 hbw12
          clear c111 c112 hIo2 hrd11 hb11 hbw11 hb12 HPo HN
          go_upto_region 17 with (first
            | (go_at_call 11
               refine (HGo.out _ _ _ hIo3).mono ?_
               rintro e w13 ⟨A13, n13, c13, B13, rs13, rfl, hR13, hb13⟩))
          obtain ⟨W14, hW14⟩ : ∃ W, W = w13.alloc (.cells #[.string x, .slice A13 n13 c13] 38) := ⟨_, rfl⟩
          have hbT : Below w10.heap.size w10 W14 := by rw [hW14]; exact (hbT12.trans (hb13.mono hbT12.size)).alloc (Nat.le_trans hbT12.size hb13.size) _
          have mC14 : Blk W14 w13.heap.size 38 #[.string x, .slice A13 n13 c13] := by rw [hW14]; exact Blk.new _ _ _
          have hRC14 : RlOn W14 A13 n13 r3 := by rw [hW14]; exact (hR13.below (alloc_b _)).on
          rw [← hW14]
          clear hW14 hR13 hb13 hbT12 hIo3 c121 c122 hbw12 HGo Hc Hrd
          generalize w13.heap.size = a14 at *
          have hI14 := hI10.below hbT
          have hbw14 : Below w.heap.size w W14 := hbw10.trans (hbT.mono hbw10s)
          have mB14 := mB10.below hbT mB10.lt
          have hRB14 := (hRB10.below hbT).on
          have q0 := (mB14.cell 0).trans (show (#[Value.string x, .slice A8 n8 c8] : Array Value)[0]? = some (.string x) from rfl)
          have q1 := (mB14.cell 1).trans (show (#[Value.string x, .slice A8 n8 c8] : Array Value)[1]? = some (.slice A8 n8 c8) from rfl)
          have s0 := (mC14.cell 0).trans (show (#[Value.string x, .slice A13 n13 c13] : Array Value)[0]? = some (.string x) from rfl)
          have s1 := (mC14.cell 1).trans (show (#[Value.string x, .slice A13 n13 c13] : Array Value)[1]? = some (.slice A13 n13 c13) from rfl)
          have hbw14s := hbw14.size
          have HF15 := hide (HF.out r3 A8 A13 n8 c8 n13 c13 W14 hRB14 hRC14 f3)
          clear HF hRB14 hRC14 mB14 mC14
          go_wp2_with (first
            | (go_at_call 18
               refine HF15.out.mono ?_
               rintro e w15 ⟨rfl, hb15⟩))
          have hI15 := hI14.below hb15
          have hbw15 := hbw14.trans (hb15.mono hbw14s)
          go_roundw
          case rel => exact ⟨i + 1, by omega, by go_num, by rw [Hst.out]; exact hI15, hbw15⟩
          case measure => simp [RowKit.intOf]; omega
      · have hi2 : i = n := by omega
        clear hI
        go_wp2_with (first
          | (go_at_call 6
             refine (HW.out _).mono ?_
             rintro e w2 ⟨rfl, hb2⟩
             have hbw := hb.trans (hb2.mono hbs)))
        go_ret
        exact ⟨rfl, hbw⟩
end Go.Proofs.Ytaiinbkfllafiaa.Index
/-
  The walk of IndexPuts. Condition: the slices read as entries; lengths as a row bounds them.
-/
namespace Go.Proofs.Ytaiinbkfllafiaa.Index
open Go Go.RowKit Go.Lib Go.Proofs.Ytaiinbkfllafiaa.Span Go.Proofs.Ytaiinbkfllafiaa.Need Go.Proofs.Ytaiinbkfllafiaa.Mani Go.Proofs.Ytaiinbkfllafiaa.Wire Go.Proofs.Ytaiinbkfllafiaa.Depot
set_option linter.unusedVariables false
theorem own_empty2 (w : World) (B : Nat) (e : TypeId) (hB : B ≤ w.heap.size) : (w.alloc (.cells #[] e)).ownsRow B e 2 (.slice (some ⟨w.heap.size, 0, none⟩) 0 0) 0 [] :=
  ⟨rfl, .inr ⟨w.heap.size, 0, #[], rfl, hB, heap_alloc_new w _, Nat.le_refl _, by simp [maxLen], rfl, rfl⟩⟩
theorem enOn_row {w : World} {B n c : Nat} {A : Option Addr} {rs : List Rw} {l : List En} (hown : w.ownsRow B 34 2 (.slice A n c) n (rcs rs)) (hl : rs.length = l.length)
    (hall : ∀ (i : Nat) (r : Rw) (q : En), rs[i]? = some r → l[i]? = some q → r.1 = q.1 ∧ ∃ A n c, r.2 = .slice A n c ∧ byR w w.heap.size A n q.2) : EnOn w A n l := ⟨rs, Reads.of_own hown, hl, hall⟩
theorem all_cat {P : Rw → En → Prop} {rs rs2 : List Rw} {l l2 : List En} (hl : rs.length = l.length) (h1 : ∀ (i : Nat) (r : Rw) (q : En), rs[i]? = some r → l[i]? = some q → P r q) (h2 : ∀ (i : Nat) (r : Rw) (q : En), rs2[i]? = some r → l2[i]? = some q → P r q) :
    ∀ (i : Nat) (r : Rw) (q : En), (rs ++ rs2)[i]? = some r → (l ++ l2)[i]? = some q → P r q := fun i r q hr hq => by
  rcases Nat.lt_or_ge i rs.length with hi | hi
  · rw [List.getElem?_append_left hi] at hr
    rw [List.getElem?_append_left (by rw [← hl]; exact hi)] at hq
    exact h1 i r q hr hq
  · rw [List.getElem?_append_right hi] at hr
    rw [List.getElem?_append_right (by rw [← hl]; exact hi), ← hl] at hq
    exact h2 _ r q hr hq
section
variable {g gy B : Nat} {l : List Kn} {w w' : World}
theorem Wrote.doc (h : Wrote B w w') (hD : Doc w gy l) : Doc w' gy l := by
  obtain ⟨A, n, c, h1, h2⟩ := hD
  have hb := h.blk h1 (by decide)
  obtain ⟨row, g1, g2, g3⟩ := h
  exact ⟨A, n, c, hb, h2.far (g3 _ (by decide)) (g3 _ (by decide)) (g3 _ (by decide)) (g3 _ (by decide)) g1⟩
theorem IdxB.doc (h : IdxB w B g l) {cs : Array Value} (hD : Blk w gy 29 cs) (hg : w.grownBy w' (some gy)) : IdxB w' B g l := by
  obtain ⟨h1, mo, h2, h3⟩ := h
  refine ⟨h1, mo, h2.far ?_ ?_ (farT_blk hD (by decide)) (farT_blk hD (by decide)) (farT_blk hD (by decide)) hg, h3⟩
  · intro e
    injection e with e
    exact h2.1.ne_ hD (by decide) e
  · intro b hb e
    injection e with e
    subst e
    rcases h2.2 with ⟨e2, _⟩ | ⟨b2, e2, val, ho, _⟩
    · rw [hb] at e2; cases e2
    · rw [hb] at e2
      injection e2 with e2
      subst e2
      exact farT_map 29 ho _ _ _ hD rfl
theorem sameB_any (A : Option Addr) (n c : Nat) (nm : ByteArray) (h : IdxB w B g l) (hK : InK w A n l) (hr : RisesK l) (hf : FineX l) (hs : ShortX l) (hn : n ≤ 100000) (hnm : nm.size ≤ 1000000000) :
    Calls Try.prog 12 #[.pointer (some ⟨g, 0, none⟩), .agg #[.slice A n c], .string nm] w (Tells w (.bool true)) := by
  obtain ⟨_, mo, h2, _⟩ := h
  exact sameL_any g mo l A n c nm w h2 hK hr hf hs hn hnm
end
set_option maxHeartbeats 4000000 in
set_option maxRecDepth 100000 in
/-- Where the law looks at its examples alone. -/
theorem puts_skip (l m : List En) (A0 A1 : Option Addr) (n0 c0 n1 c1 : Nat) (nm : ByteArray) (w : World) (h : EnOn w A0 n0 l) (h' : EnOn w A1 n1 m) (hn : n0 ≤ 9223372036854775807) (hn' : n1 ≤ 9223372036854775807) (hsk : largeE l = true ∨ largeE m = true ∨ 200 < nm.size) :
    Calls Try.prog 3 #[.slice A0 n0 c0, .slice A1 n1 c1, .string nm] w fun e w' => e = .returned (.bool true) ∧ Below w.heap.size w w' := by
  have HW := hide (fun wx => awakeX_any wx)
  unfold Tells at HW
  have HL := hide (largeE_any l A0 n0 c0 w h hn)
  have HM := hide (fun (wx : World) (hb : Below w.heap.size w wx) => largeE_any m A1 n1 c1 wx (h'.on hb) hn')
  unfold Tells at HL HM
  cases g1 : largeE l with
  | true =>
    rw [g1] at HL
    clear h h' hn hn' hsk HM
    go_enter Try.func3, Try.ntmps3
    go_wp2_with (first
      | (go_at_call 6
         refine (HW.out _).mono ?_
         rintro e w2 ⟨rfl, hb2⟩
         have hbw := hb1.trans (hb2.mono hb1.size))
      | (go_at_call 5
         refine HL.out.mono ?_
         rintro e w1 ⟨rfl, hb1⟩))
    go_ret
    exact ⟨rfl, hbw⟩
  | false =>
    rw [g1] at HL hsk
    cases g2 : largeE m with
    | true =>
      rw [g2] at HM
      clear h h' hn hn' hsk
      go_enter Try.func3, Try.ntmps3
      go_wp2_with (first
        | (go_at_call 6
           refine (HW.out _).mono ?_
           rintro e w2 ⟨rfl, hb2⟩
           have hbw := hb1.trans (hb2.mono hb1.size))
        | (go_at_call 5
           refine (HM.out _ hb0).mono ?_
           rintro e w1 ⟨rfl, hb1x⟩
           have hb1 := hb0.trans (hb1x.mono hb0.size))
        | (go_at_call 5
           refine HL.out.mono ?_
           rintro e w0 ⟨rfl, hb0⟩))
      go_ret
      exact ⟨rfl, hbw⟩
    | false =>
      rw [g2] at HM hsk
      have hnz : (200 : Int) < (nm.size : Int) := by
        rcases hsk with e | e | e
        · cases e
        · cases e
        · omega
      clear h h' hn hn' hsk
      go_enter Try.func3, Try.ntmps3
      go_wp2_with (first
        | (go_at_call 6
           refine (HW.out _).mono ?_
           rintro e w2 ⟨rfl, hb2⟩
           have hbw := hb1.trans (hb2.mono hb1.size))
        | (go_at_call 5
           refine (HM.out _ hb0).mono ?_
           rintro e w1 ⟨rfl, hb1x⟩
           have hb1 := hb0.trans (hb1x.mono hb0.size))
        | (go_at_call 5
           refine HL.out.mono ?_
           rintro e w0 ⟨rfl, hb0⟩))
      go_ret
      exact ⟨rfl, hbw⟩
end Go.Proofs.Ytaiinbkfllafiaa.Index
