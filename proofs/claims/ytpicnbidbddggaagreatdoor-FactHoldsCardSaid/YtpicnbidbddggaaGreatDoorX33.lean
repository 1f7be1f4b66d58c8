/-
  Some texts of this claim, one behind the other: IndexNames, IndexClone, IndexStaysW. What each proves, and its condition, stands at its head.
-/
import Derived.Test.YtpicnbidbddggaaGreatDoorX32
import Derived.Test.YtpicnbidbddggaaGreatDoorX4
import Derived.Test.YtpicnbidbddggaaGreatDoorX17
import Derived.Shelf.SlMaps.Clone
import Derived.Maps.RangeWalk
import Derived.Sort.KeysCollected
import Derived.Test.YtpicnbidbddggaaGreatDoorX31
import Derived.Test.YtpicnbidbddggaaGreatDoorX11
import Derived.Test.YtpicnbidbddggaaGreatDoorX28
import Derived.Test.YtpicnbidbddggaaGreatDoorX29
/-
  Contracts of the program's Names, Clone and Of: the names that are known, rising; an index that knows the same; one into which entries were put. Condition: names and lists of a length that may be walked.
-/
namespace Go.Proofs.YtpicnbidbddggaaGreatDoor.Index
open Go Go.RowKit Go.Lib Go.Maps Go.Sort Go.Shelf Go.Proofs.YtpicnbidbddggaaGreatDoor.Span Go.Proofs.YtpicnbidbddggaaGreatDoor.Need Go.Proofs.YtpicnbidbddggaaGreatDoor.Mani Go.Proofs.YtpicnbidbddggaaGreatDoor.Wire Go.Proofs.YtpicnbidbddggaaGreatDoor.Depot Go.Proofs.YtpicnbidbddggaaGreatDoor.MapV
set_option linter.unusedVariables false
def ShortX (l : List Kn) : Prop := ∀ q ∈ l, q.1.size ≤ 1000000000
theorem ShortX.nil : ShortX [] := fun q hq => by cases hq
theorem ShortX.put {l : List Kn} (h : ShortX l) {nm : ByteArray} (hnm : nm.size ≤ 1000000000) (b : List UInt8) : ShortX (putX l nm b) := by
  unfold putX
  split
  · intro q hq
    rcases (insX_mem _ _).1 hq with rfl | hq
    · exact hnm
    · exact h q hq
  · exact h
theorem texts_of (L : List ByteArray) : (L.map bytesOf).map encStr = tcs L := by
  rw [List.map_map]
  unfold tcs
  refine List.map_congr_left fun x _ => ?_
  simp [encStr, bytesOf]
theorem told_key {D : DataW Value} {l : List Nv} (h : MapV.Told D l) {x : List UInt8} (hx : Maps.has D (.string x) = true) : (⟨x.toArray⟩ : ByteArray) ∈ l.map Prod.fst := by
  have e : bytesOf (⟨x.toArray⟩ : ByteArray) = x := by simp [bytesOf]
  have h2 := h.2.1 ⟨x.toArray⟩
  rw [e, hx] at h2
  generalize (⟨x.toArray⟩ : ByteArray) = nm at h2
  clear h hx e
  induction l with
  | nil => cases h2
  | cons q t ih =>
    rw [lookA] at h2
    by_cases g : q.1 = nm
    · simp [g]
    · rw [if_neg g] at h2
      exact List.mem_cons_of_mem _ (ih h2)
set_option maxHeartbeats 4000000 in
set_option maxRecDepth 100000 in
theorem names_any (g : Nat) (mo : Option Nat) (l : List Kn) (w : World) (h : Idx w g mo l) (hl : RisesK l) (hs : ShortX l) (hlen : l.length ≤ 100000) :
    Calls Tryz.prog 14 #[.pointer (some ⟨g, 0, none⟩)] w (MakesT w (namesX l)) := by
  obtain ⟨i0, hi, hz0, hz1, hz2⟩ := info_parts info_str
  have hc := (h.1.cell 0).trans (show (#[Value.map mo] : Array Value)[0]? = some (.map mo) from rfl)
  rcases h.2 with ⟨rfl, rfl⟩ | ⟨b, rfl, hm⟩
  · have hrg := fun (w1 : World) => run_range_nilMap (P := Tryz.prog) w1 79 9 90 Tryz.underlying79
    have hnx : ∀ (w1 : World) ty, (Instr.next (.pointer (some ⟨w1.heap.size, 0, none⟩)) false ty).run Tryz.prog (w1.alloc (.mapIter none 0 #[] 0)) = _ := fun (w1 : World) ty => run_next_nilMap w1 ty 0 0 #[]
    have HS := hide (fun wx => sort_own w.heap.size (.slice none 0 0) [] wx (World.ownsRow_nil _ _ _ _) (by simp))
    go_enter Tryz.func14, Tryz.ntmps14
    go_wp2
    refine wp_loop_rounds 1 ?_
    rw [rounds_succ]
    go_wp2_with (first
      | (go_at_call 30
         refine (HS.out _).mono ?_
         rintro e w2 ⟨rfl, hown2, hg2⟩
         have hbw : Below w.heap.size w w2 := (alloc_b _).grown hg2 (by simp) (fun k hk => by simp [Value.ownBlock] at hk)))
    go_ret
    exact ⟨none, 0, 0, rfl, ⟨rfl, fun h => absurd h (by omega)⟩, hbw⟩
  · obtain ⟨val, ⟨D, ho, ht⟩, hk⟩ := hm
    have hsz : Maps.size D = l.length := by rw [ht.2.2.2, nvs_length]
    have Hsz := hide hsz
    have hbl := ho.lt
    have Hkey := hide (fun (x : List UInt8) (hx : Maps.has D (.string x) = true) => by
      have h2 := told_key ht hx
      rw [nvs_names] at h2
      obtain ⟨q, hq, e⟩ := List.mem_map.1 h2
      have h3 := hs q hq
      rw [e] at h3
      exact h3)
    have Hend := hide (fun (wx : World) (n : Nat) (ss : List (List UInt8)) (ho' : wx.ownsMap Tryz.prog 9 valElem b n D) (hp : ss.Perm (strKeys D)) => sorted_v ho' ht (by rw [nvs_names]; exact namesX_rises hl) hp)
    rw [nvs_names] at Hend
    clear hsz ht hk hs hl h
    go_enter Tryz.func14, Tryz.ntmps14
    go_wp2_with (first
      | (at_range
         refine wpList_range_own _ rfl _ 79 rfl 9 90 keyed Tryz.underlying79 valElem b l.length D rfl ho ?_
         intro w0 hrg0 hg0 hs0))
    go_frame
    have hw0 : Below w.heap.size w w0 := (Below.refl _ _).grown hg0 (Nat.le_refl _) (fun j hj => by cases hj)
    clear hs0
    go_loopw [3] (fun v wr => ∃ (left : Lit → Bool) (cnt : Nat) (ss : List (List UInt8)), wr.ranges Tryz.prog 9 valElem b w.heap.size l.length D left cnt ∧ ss.length + cnt ≤ Maps.size D ∧ wr.ownsRow w.heap.size 9 1 v ss.length (ss.map encStr) ∧ Collected D left ss ∧ Below w.heap.size w wr)
      (fun _ wr => wr.rangeLeft b w.heap.size)
    case atStart => exact ⟨_, _, [], hrg0, by simp, World.ownsRow_nil _ _ _ _, Collected.start D, hw0⟩
    case round =>
      obtain ⟨left, cnt, ss, hrg, hcs, hrow, hC, hnx⟩ := hrel
      have hsl := Hsz.out
      have hssl : ss.length ≤ 100000 := by omega
      go_wp2_with (first
        | (at_next
           refine wpList_next_ranges _ rfl _ rfl 9 keyed valElem encStr (fun v : Value => v) (fun key kl hk => by obtain ⟨x, hx, _⟩ := Maps.keyOf_str Tryz.underlying9 hk; exact ⟨x, hx⟩) (fun v y hv => ⟨v, rfl⟩) b w.heap.size l.length _ _ _ rfl hrg ?_ ?_))
      · intro hc0 hl0
        have hmap := hrg.owns
        have hperm := hC.perm hmap keyed Tryz.underlying9 hl0
        have hE := Hend.out wr _ ss hmap hperm
        have HS := hide (sort_own w.heap.size _ ss wr hrow (by omega))
        obtain ⟨Av, cv, rfl, _⟩ := own_form hrow
        clear hperm hC hrg hcs
        go_wp2_with (first
          | (go_at_call 30
             refine HS.out.mono ?_
             rintro e w2 ⟨rfl, hown2, hg2⟩))
        rw [hE, texts_of] at hown2
        have hbw : Below w.heap.size w w2 := hnx.grown hg2 hnx.size (fun j hj => (hrow.lt j hj).1)
        obtain ⟨A9, c9, e9, _, hT⟩ := own_texts hown2
        go_ret
        injection e9 with e1 e2 e3
        subst e1 e3
        exact ⟨Av, ss.length, cv, rfl, hT, hbw⟩
      · intro x c kl yd yp w2 cnt2 hkey hlk hv hat hrg2 hlt hg2 hs2 hen
        obtain ⟨x', ex, rfl, _⟩ := Maps.keyOf_str Tryz.underlying9 hkey
        obtain rfl : x = x' := encStr_inj ex
        have hsx := Hkey.out x (Maps.has_true_of_atKey hat)
        have HC := hide (fun wx => Label.clone_any ⟨x.toArray⟩ wx hsx)
        have hrow2 := hrow.kept hg2 (Or.inr (row_ne_iter hrow hrg).symm)
        have hnx2 : Below w.heap.size w w2 := hnx.grown hg2 hnx.size (fun j hj => by cases hj; exact Nat.le_refl _)
        obtain ⟨Av, cv, rfl, _⟩ := own_form hrow
        have hstep := hC.step hlk hat
        have hmeas := hide (show cnt2 < cnt from hlt)
        have hleft := hide hrg.left_eq
        have hri2 := hide (row_ne_iter hrow2 hrg2)
        have hrl2 := hide (row_ne_low hrow2 hbl)
        have hbs2 := hnx2.size
        have hcs2 : ss.length + 1 + cnt2 ≤ Maps.size D := by omega
        have Hcs2 := hide hcs2
        clear hs2 hC hrow hrg hnx hg2 hlt hcs hcs2 hkey hat hlk
        go_wp2_with (first
          | (go_at_call 26
             refine (HC.out _).mono ?_
             rintro e w3 ⟨rfl, hb3⟩
             have hrow3 := own_below hrow2 hb3
             have hrg3 := hrg2.kept (only_of_below hb3 none) (by simp) (by simp)
             have hnx3 := hnx2.trans (hb3.mono hbs2)
             have hbs3 := hnx3.size)
          | (at_builtin
             refine wpList_append_any _ rfl _ _ _ rfl w.heap.size 9 i0 _ 1 16 Tryz.underlying38 hi hz0 hz1 hz2 rfl (by omega) _ ss.length (ss.map encStr) rfl
               (hrow3.alloc _) _ _ 1 _ [encStr x] rfl (Reads.new1 _ _ _) (by simp [Value.oneCell', encStr]) (by unfold maxLen; omega) (by omega) (by simp; omega) ?_
             intro v4 w4 hown4 hg4 hat4
             go_frame))
        have hrg4 := (hrg3.alloc (.cells #[encStr x] 9)).kept hg4 hrl2.out hri2.out
        have hnx4 : Below w.heap.size w w4 := (hnx3.alloc hbs3 (.cells #[encStr x] 9)).grown hg4 (by simp; omega) (fun j hj => (hrow3.lt j hj).1)
        go_roundw
        case rel => exact ⟨_, cnt2, ss ++ [x], hrg4, by rw [List.length_append]; exact Hcs2.out, by simpa using hown4, hstep, hnx4⟩
        case measure => rw [hrg4.left_eq, hleft.out]; exact hmeas.out
end Go.Proofs.YtpicnbidbddggaaGreatDoor.Index
/-
  Contracts of the program's Clone and Of, and of Names at nil: an index that knows the same; one into which entries were put. Condition: names and lists of a length that may be walked.
-/
namespace Go.Proofs.YtpicnbidbddggaaGreatDoor.Index
open Go Go.RowKit Go.Lib Go.Maps Go.Sort Go.Shelf Go.Proofs.YtpicnbidbddggaaGreatDoor.Span Go.Proofs.YtpicnbidbddggaaGreatDoor.Need Go.Proofs.YtpicnbidbddggaaGreatDoor.Mani Go.Proofs.YtpicnbidbddggaaGreatDoor.Wire Go.Proofs.YtpicnbidbddggaaGreatDoor.Depot Go.Proofs.YtpicnbidbddggaaGreatDoor.MapV
set_option linter.unusedVariables false
theorem puts_short {l : List Kn} (h : ShortX l) (es : List En) (he : ∀ e ∈ es, e.1.size ≤ 1000000000) : ShortX (putsX l es) := by
  induction es generalizing l with
  | nil => exact h
  | cons e t ih => exact ih (h.put (he e (by simp)) e.2) fun x hx => he x (by simp [hx])
def IdxB (w : World) (B g : Nat) (l : List Kn) : Prop := B ≤ g ∧ ∃ mo, Idx w g mo l ∧ ∀ b, mo = some b → B ≤ b
theorem IdxB.row {g B : Nat} {mo : Option Nat} (hg : B ≤ g) (hm : ∀ b, mo = some b → B ≤ b) : B ≤ rowX g mo := by
  cases mo with
  | none => exact hg
  | some b => exact hm b rfl
theorem IdxB.below {w w' : World} {B g : Nat} {l : List Kn} (h : IdxB w B g l) (hb : Below w.heap.size w w') : IdxB w' B g l := by
  obtain ⟨h1, mo, h2, h3⟩ := h
  exact ⟨h1, mo, h2.below hb, h3⟩
theorem IdxB.lt {w : World} {B g : Nat} {l : List Kn} (h : IdxB w B g l) : g < w.heap.size := by
  obtain ⟨_, mo, h2, _⟩ := h
  exact h2.lt
theorem IdxB.le {w : World} {B g : Nat} {l : List Kn} (h : IdxB w B g l) : B ≤ w.heap.size := Nat.le_trans h.1 (Nat.le_of_lt h.lt)
theorem putB_any (g : Nat) (l : List Kn) (nm : ByteArray) (bd : List UInt8) (A : Option Addr) (n c B : Nat) (w : World) (h : IdxB w B g l) (hl : RisesK l) (hlen : l.length ≤ 100000) (hr : Reads w B 1 A n (bcs bd)) (hnm : nm.size ≤ 1000000000) :
    Calls Tryz.prog 21 #[.pointer (some ⟨g, 0, none⟩), .string nm, .slice A n c] w fun e w' =>
      e = .returned (.int .i64 (errX l nm bd)) ∧ IdxB w' B g (putX l nm bd) ∧ Below B w w' := by
  have hle := h.le
  obtain ⟨h1, mo, h2, h3⟩ := h
  refine (put_any g mo l nm bd A n c B w h2 hl hlen hr (IdxB.row h1 h3) hnm).mono ?_
  rintro e w' ⟨he, ⟨mo', h4, h5⟩, hg⟩
  refine ⟨he, ⟨h1, mo', h4, fun b hb => ?_⟩, (Below.refl _ _).grown hg hle (fun k hk => by injection hk with hk; rw [← hk]; exact IdxB.row h1 h3)⟩
  rcases h5 with rfl | ⟨_, b', e2, h6⟩
  · exact h3 b hb
  · rw [hb] at e2
    injection e2 with e2
    rw [e2]; exact Nat.le_trans hle h6
set_option maxHeartbeats 4000000 in
set_option maxRecDepth 100000 in
theorem indexOf_any (l : List En) (A : Option Addr) (n c : Nat) (w : World) (h : EnOn w A n l) (hn : n ≤ 100000) (hl : ∀ e ∈ l, e.1.size ≤ 1000000000) :
    Calls Tryz.prog 10 #[.slice A n c] w fun e w' => ∃ g, e = .returned (.pointer (some ⟨g, 0, none⟩)) ∧ IdxB w' w.heap.size g (putsX [] l) ∧ Below w.heap.size w w' := by
  have HN := hide (new_any w)
  have Hlen := hide h.len
  go_enter Tryz.func10, Tryz.ntmps10
  go_wp2_with (first
    | (go_at_call 20
       refine HN.out.mono ?_
       rintro e w1 ⟨rfl, hI1, hb1⟩))
  go_loopw [9] (fun v wr => ∃ (i : Nat), i ≤ n ∧ v = .int .i64 (i : Int) ∧ IdxB wr w.heap.size w.heap.size (putsX [] (l.take i)) ∧ Below w.heap.size w wr) (fun v _ => n - (RowKit.intOf v).toNat)
  case atStart => exact ⟨0, by omega, rfl, ⟨Nat.le_refl _, none, hI1, fun b e => by cases e⟩, hb1⟩
  case round =>
    obtain ⟨i, hi, rfl, hI, hb⟩ := hrel
    have hbs := hb.size
    clear hI1 hb1
    by_cases hlt : i < n
    · obtain ⟨ad, q, A', n', c', rfl, hbl, hx, hs, c1, c2⟩ := PIn.at_ (EnIn.below h hb) hlt
      have hnm := hl q (List.mem_of_getElem? hx)
      have hst := putsX_take (l := []) hx
      have hrise := putsX_rises (l := []) List.Pairwise.nil (l.take i)
      have hplen := putsX_len [] (l.take i)
      have htl : (l.take i).length ≤ i := by rw [List.length_take]; omega
      have hpl : (putsX [] (l.take i)).length ≤ 100000 := by
        have e0 : ([] : List Kn).length = 0 := rfl
        omega
      obtain ⟨x, s⟩ := q
      simp only [] at c1 c2 hnm hst
      have hrd : Reads wr w.heap.size 1 A' n' (bcs s) := hs
      have HP := hide (fun (wx : World) (hx : Below wr.heap.size wr wx) => putB_any w.heap.size _ x s A' n' c' w.heap.size wx (hI.below hx) hrise hpl (hrd.below (hx.mono hbs)) hnm)
      have Hst := hide hst
      clear hst hrise hplen htl hpl hx hs hrd hI hnm
      generalize putsX [] (l.take i) = X at *
      go_wp2_with (first
        | (go_at_call 21
           refine (HP.out _ (alloc_b _)).mono ?_
           rintro e w2 ⟨rfl, hI2, hb2⟩))
      have hbw : Below w.heap.size w w2 := (hb.alloc hbs _).trans hb2
      go_roundw
      case rel => exact ⟨i + 1, by omega, by go_num, by rw [Hst.out]; exact hI2, hbw⟩
      case measure => simp [RowKit.intOf]; omega
    · have hi2 : i = n := by omega
      subst hi2
      rw [List.take_of_length_le (by rw [Hlen.out]; exact Nat.le_refl _)] at hI
      go_wp2
      go_ret
      exact ⟨w.heap.size, rfl, hI, hb⟩
end Go.Proofs.YtpicnbidbddggaaGreatDoor.Index
/-
  The walk of IndexStays. Condition: the slice reads as entries; lengths as a row bounds them.
-/
namespace Go.Proofs.YtpicnbidbddggaaGreatDoor.Index
open Go Go.RowKit Go.Lib Go.Proofs.YtpicnbidbddggaaGreatDoor.Span Go.Proofs.YtpicnbidbddggaaGreatDoor.Need Go.Proofs.YtpicnbidbddggaaGreatDoor.Mani Go.Proofs.YtpicnbidbddggaaGreatDoor.Wire Go.Proofs.YtpicnbidbddggaaGreatDoor.Depot
set_option linter.unusedVariables false
/-! Contracts at an index whose blocks lie at B or behind. -/
section
variable {g B : Nat} {l : List Kn} {w : World}
def Wrote (B : Nat) (w w' : World) : Prop := ∃ row, w.grownBy w' (some row) ∧ B ≤ row ∧ ∀ T, T ≠ 81 → FarT w T (some row)
theorem Wrote.below {w' : World} (h : Wrote B w w') (hB : B ≤ w.heap.size) : Below B w w' := by
  obtain ⟨row, h1, h2, _⟩ := h
  exact (Below.refl _ _).grown h1 hB (fun k hk => by injection hk with hk; omega)
theorem Wrote.blk {w' : World} {p : Nat} {T : TypeId} {cs : Array Value} (h : Wrote B w w') (hp : Blk w p T cs) (hT : T ≠ 81) : Blk w' p T cs := by
  obtain ⟨row, h1, h2, h3⟩ := h
  exact hp.grown h1 (h3 T hT p _ _ hp)
end
theorem take_bounds (l : List En) (i : Nat) (h30 : l.length ≤ 30) (hs : ∀ q ∈ l, q.1.size ≤ 200 ∧ q.2.length ≤ 9000) :
    RisesK (putsX [] (l.take i)) ∧ FineX (putsX [] (l.take i)) ∧ ShortX (putsX [] (l.take i)) ∧ (putsX [] (l.take i)).length ≤ 30 := by
  refine ⟨putsX_rises List.Pairwise.nil _, FineX.nil.puts _, puts_short ShortX.nil _ fun e he => by have := hs e (List.mem_of_mem_take he); omega, ?_⟩
  have h1 := putsX_len [] (l.take i)
  have h2 : (l.take i).length ≤ l.length := by rw [List.length_take]; omega
  have h3 : ([] : List Kn).length = 0 := rfl
  omega
end Go.Proofs.YtpicnbidbddggaaGreatDoor.Index
