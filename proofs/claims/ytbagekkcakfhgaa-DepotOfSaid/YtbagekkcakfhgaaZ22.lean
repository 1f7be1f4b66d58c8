/-
  Some texts of this claim, one behind the other: DepotFind. What each proves, and its condition, stands at its head.
-/
import Derived.Test.YtbagekkcakfhgaaZ21
import Derived.Shelf.Small.Strs
/-
  The library's comparison of two texts, laid; the closure that tells how a name stands to an entry; the library's search over it. Condition: the entries' names rise.
-/
namespace Go.Proofs.Ytbagekkcakfhgaa.Depot
open Go Go.RowKit Go.Lib Go.Shelf Go.Proofs.Ytbagekkcakfhgaa.Span Go.Proofs.Ytbagekkcakfhgaa.Need Go.Proofs.Ytbagekkcakfhgaa.Mani Go.Proofs.Ytbagekkcakfhgaa.Wire
set_option linter.unusedVariables false
def renP : Ren := ⟨fun | 106 => 30 | 213 => 45 | 265 => 71 | n => n, fun | 3 => 3 | 9 => 9 | n => n, fun n => n⟩
theorem laysP : Lays.n106 Try.prog renP := {
  mixed := by kernel_rfl
  f106 := Try.func30.trans (congrArg some (by kernel_rfl))
  f213 := Try.func45.trans (congrArg some (by kernel_rfl))
  f265 := Try.func71.trans (congrArg some (by kernel_rfl))
  t3 := Try.underlying3
  a3 := Try.isAgg3
  z3 := Try.sizeOf3
  v3 := Try.zeroValue3
  t9 := Try.underlying9
  a9 := Try.isAgg9
  z9 := Try.sizeOf9
  v9 := Try.zeroValue9 }
theorem compareS_any (a b : ByteArray) (w : World) : Calls Try.prog 30 #[.string a, .string b] w fun e w' => e = .returned (.int .i64 (cmpK a b)) ∧ w = w' :=
  (Any.strings_Compare laysP a b w).mono fun _ _ ⟨h1, h2⟩ => ⟨h1, h2.symm⟩
set_option maxHeartbeats 1600000 in
set_option maxRecDepth 100000 in
theorem stands_any (nm : ByteArray) (l : List En) (A : Option Addr) (n c b1 b2 i : Nat) (w : World) (h : EnOn w A n l) (h1 : Blk w b1 9 #[.string nm]) (h2 : Blk w b2 22 #[.slice A n c]) (hi : i < n) (hn : n ≤ 1000) :
    Calls Try.prog 29 #[.int .i64 (i : Int), .pointer (some ⟨b1, 0, none⟩), .pointer (some ⟨b2, 0, none⟩)] w fun e w' => e = .returned (.int .i64 (atK l nm i)) ∧ Below w.heap.size w w' := by
  obtain ⟨ad, q, A', n', c', rfl, hbl, hq, hr, c1, c2⟩ := PIn.at_ h hi
  rw [atK_at hq]
  have HC := hide (fun wx => compareS_any nm q.1 wx)
  have k1 := (h1.cell 0).trans (show (#[Value.string nm] : Array Value)[0]? = some (.string nm) from rfl)
  have k2 := (h2.cell 0).trans (show (#[Value.slice (some ad) n c] : Array Value)[0]? = some (.slice (some ad) n c) from rfl)
  have hi1 : (0 : Int) ≤ (i : Int) := by omega
  have hi2 : (i : Int) < (n : Int) := by omega
  generalize cmpK nm q.1 = K at *
  generalize q.1 = x at *
  clear h hr hq c2 h1 h2
  go_enter Try.func29, Try.ntmps29
  go_upto_region 1 with fail
  go_quiet ((go_at_call 30; exact quiet_left (HC.out _)))
  go_wp2
  go_ret
  exact ⟨rfl, quiet_b _⟩
set_option maxHeartbeats 4000000 in
set_option maxRecDepth 100000 in
theorem find_any (nm : ByteArray) (l : List En) (A : Option Addr) (n c b1 b2 p : Nat) (y : Bool) (w : World) (h : EnOn w A n l) (h1 : Blk w b1 9 #[.string nm]) (h2 : Blk w b2 22 #[.slice A n c]) (hn : n ≤ 1000)
    (hp : p ≤ n) (ha : ∀ i, i < p → 0 < atK l nm i) (hb : ∀ i, p ≤ i → atK l nm i ≤ 0) (hy : p < n → decide (atK l nm p = 0) = y) (hy2 : p = n → y = false) :
    Calls Try.prog 28 #[.int .i64 (n : Int), .func (.func 29) #[] #[.pointer (some ⟨b1, 0, none⟩), .pointer (some ⟨b2, 0, none⟩)]] w (Tells w (.tuple #[.int .i64 (p : Int), .bool y])) := by
  unfold Tells
  have HC := hide (fun (i : Nat) (hi : i < n) (wx : World) (hbx : Below w.heap.size w wx) => stands_any nm l A n c b1 b2 i wx (h.on hbx) (h1.below hbx h1.lt) (h2.below hbx h2.lt) hi hn)
  have Ha := hide ha
  have Hb := hide hb
  have Hy := hide hy
  clear h h1 h2 ha hb hy
  generalize atK l nm = K at *
  go_enter Try.func28, Try.ntmps28
  go_wp2
  go_loopw [4, 6] (fun u v wr => ∃ (i j : Nat), i ≤ p ∧ p ≤ j ∧ j ≤ n ∧ u = .int .i64 (i : Int) ∧ v = .int .i64 (j : Int) ∧ Below w.heap.size w wr) (fun u v _ => (RowKit.intOf v).toNat - (RowKit.intOf u).toNat)
  case atStart => exact ⟨0, n, by omega, hp, Nat.le_refl _, rfl, rfl, Below.refl _ _⟩
  case round =>
    obtain ⟨i, j, hi, hj, hjn, rfl, rfl, hbw⟩ := hrel
    have hbs := hbw.size
    by_cases hlt : i < j
    · obtain ⟨m, Hm⟩ : ∃ m, Hid (m = (i + j) / 2) := ⟨_, hide rfl⟩
      have hm1 : i ≤ m := by rw [Hm.out]; omega
      have hm2 : m < j := by rw [Hm.out]; omega
      have hme : ((i : Int) + (j : Int)) / 2 = (m : Int) := by rw [Hm.out]; omega
      go_upto_region 4 with fail
      have HM := hide (HC.out m (by omega))
      have Ham := hide (show 0 < K m → m < p from fun g => by
        rcases Nat.lt_or_ge m p with g2 | g2
        · exact g2
        · have := Hb.out m g2; omega)
      have Hbm := hide (show K m ≤ 0 → p ≤ m from fun g => by
        rcases Nat.lt_or_ge m p with g2 | g2
        · have := Ha.out m g2; omega
        · exact g2)
      clear hme Hm HC Ha Hb Hy hy2
      generalize K m = z at *
      by_cases hz : 0 < z
      · have hmp := Ham.out hz
        clear Ham Hbm
        go_wp2_with (first
          | (go_at_call 29
             refine (HM.out _ hbw).mono ?_
             rintro e w1 ⟨rfl, hb1⟩
             have hbw1 := hbw.trans (hb1.mono hbs)))
        go_roundw
        case rel => exact ⟨m + 1, j, by omega, hj, hjn, by go_num, rfl, hbw1⟩
        case measure => simp [RowKit.intOf]; omega
      · have hmp := Hbm.out (by omega)
        clear Ham Hbm
        go_wp2_with (first
          | (go_at_call 29
             refine (HM.out _ hbw).mono ?_
             rintro e w1 ⟨rfl, hb1⟩
             have hbw1 := hbw.trans (hb1.mono hbs)))
        go_roundw
        case rel => exact ⟨i, m, hi, hmp, by omega, rfl, rfl, hbw1⟩
        case measure => simp [RowKit.intOf]; omega
    · have e1 : i = p := by omega
      subst e1
      by_cases hin : i < n
      · have HM := hide (HC.out i hin)
        have Hyi := hide (Hy.out hin)
        clear HC Ha Hb Hy hy2
        generalize K i = z at *
        have hze : (z == 0) = y := by rw [← Hyi.out]; rfl
        clear Hyi
        go_wp2_with (first
          | (go_at_call 29
             refine (HM.out _ hbw).mono ?_
             rintro e w1 ⟨rfl, hb1⟩
             have hbw1 := hbw.trans (hb1.mono hbs)))
        go_ret2
        exact ⟨rfl, hbw1⟩
      · have e2 : y = false := hy2 (by omega)
        subst e2
        clear HC Ha Hb Hy hy2
        go_wp2
        go_ret2
        exact ⟨rfl, hbw⟩
end Go.Proofs.Ytbagekkcakfhgaa.Depot
