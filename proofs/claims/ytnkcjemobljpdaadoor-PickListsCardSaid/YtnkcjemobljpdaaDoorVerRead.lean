/-
  The contracts of the program's and the document's own Read. Condition: the tables hold what the texts lay in them; the text is no longer than a text may be.
-/
import Derived.Test.YtnkcjemobljpdaaDoorVerText
namespace Go.Proofs.YtnkcjemobljpdaaDoor.Ver
open Go.RowKit Go.Lib Go.Proofs.YtnkcjemobljpdaaDoor.Label
set_option linter.unusedVariables false
theorem pos_of {w : World} {k : Nat} {s : ByteArray} {p : Nat} (h : w.heap[k]? = some (.stringIter s p)) : w.iterPos k = p := by simp [World.iterPos, h]
def fin (s : ByteArray) : Option St → Option Nat
  | none => none
  | some t => if Fits t.x t.y t.z ∧ str (txt (placeN t.x t.y t.z)) = s then some (placeN t.x t.y t.z) else none
theorem read_fin (s : ByteArray) : readR s = fin s (go (some ⟨0, 0, 0, 0⟩) (runes s 0)) := by
  unfold readR fin
  cases go (some ⟨0, 0, 0, 0⟩) (runes s 0) <;> rfl
/-- What stands in memory as the text is gone through: the three parts, and the place in the text. -/
def Goes (w0 : World) (B : Nat) (w : World) (s : ByteArray) (pos : Nat) (x y z : Int) : Prop :=
  Blk w B 39 (three x y z) ∧ w.heap[B + 1]? = some (.stringIter s pos) ∧ Below w0.heap.size w0 w
theorem Goes.iter {w0 w : World} {B : Nat} {s : ByteArray} {pos p : Nat} {x y z : Int} (h : Goes w0 B w s pos x y z) (hB : w0.heap.size ≤ B) : Goes w0 B (w.iterAt (B + 1) s p) s p x y z :=
  ⟨(iterAt_other w _ _ s p (by omega)).trans h.1, iterAt_heap _ _ _ _ _ h.2.1, below_iterAt h.2.2 (by omega) s p⟩
theorem Goes.set0 {w0 w : World} {B : Nat} {s : ByteArray} {pos : Nat} {x y z : Int} (h : Goes w0 B w s pos x y z) (hB : w0.heap.size ≤ B) (v : Int) : Goes w0 B (w.setCell ⟨B, 0, none⟩ (.int .i64 v)) s pos v y z :=
  ⟨h.1.set_ 0 _, (Below.heap_setCell w _ _ _ (by simp)).trans h.2.1, h.2.2.setCell (by simpa using hB) _⟩
theorem Goes.set1 {w0 w : World} {B : Nat} {s : ByteArray} {pos : Nat} {x y z : Int} (h : Goes w0 B w s pos x y z) (hB : w0.heap.size ≤ B) (v : Int) : Goes w0 B (w.setCell ⟨B, 1, none⟩ (.int .i64 v)) s pos x v z :=
  ⟨h.1.set_ 1 _, (Below.heap_setCell w _ _ _ (by simp)).trans h.2.1, h.2.2.setCell (by simpa using hB) _⟩
theorem Goes.set2 {w0 w : World} {B : Nat} {s : ByteArray} {pos : Nat} {x y z : Int} (h : Goes w0 B w s pos x y z) (hB : w0.heap.size ≤ B) (v : Int) : Goes w0 B (w.setCell ⟨B, 2, none⟩ (.int .i64 v)) s pos x y v :=
  ⟨h.1.set_ 2 _, (Below.heap_setCell w _ _ _ (by simp)).trans h.2.1, h.2.2.setCell (by simpa using hB) _⟩
theorem end_p2 {a b : Int} {f g : Bool} (h : a = b) (h' : f = g) : Ending.returned (.tuple #[.int .i64 a, .bool f]) = .returned (.tuple #[.int .i64 b, .bool g]) := by rw [h, h']
theorem toList_data (a : ByteArray) : a.toList = a.data.toList := (congrArg ByteArray.toList (str_of a).symm).trans (str_toList _)
theorem toList_ne {a b : ByteArray} (h : ¬ a = b) : (a.toList == b.toList) = false := by
  rw [beq_eq_false_iff_ne]
  intro e
  rw [toList_data, toList_data] at e
  exact h (by rw [← str_of a, ← str_of b, e])
set_option maxHeartbeats 4000000 in
set_option maxRecDepth 100000 in
theorem read_any (s : ByteArray) (w : World) (hs : s.size ≤ 9223372036854775807) (hT : Tabs w) :
   Calls Tryd.prog 39 #[.string s] w fun e w' => e = .returned (.tuple #[.int .i64 (optV (readR s)), .bool (readR s).isSome]) ∧ Below w.heap.size w w' := by
  rw [read_fin]
  obtain ⟨R, hR⟩ : ∃ R, R = go (some ⟨0, 0, 0, 0⟩) (runes s 0) := ⟨_, rfl⟩
  rw [← hR]
  have Hend := hide (fun (p : Nat) (h : ¬ p < s.size) => runes_end s p h)
  have Hstp := hide (fun (p : Nat) (h : p < s.size) => runes_step s p h)
  obtain ⟨B, hB⟩ : ∃ B, B = w.heap.size := ⟨_, rfl⟩
  have HT := hide hT
  clear hT
  go_enter Tryd.func39, Tryd.ntmps39
  go_wp2
  go_loopw [5] (fun t w' => ∃ (pos k : Nat) (x y z : Int), Goes w B w' s pos x y z ∧ t = .int .i64 (k : Int) ∧ Hid (R = go (some ⟨k, x, y, z⟩) (runes s pos)) ∧ k ≤ 2 ∧ pos ≤ s.size) (fun _ w' => s.size - w'.iterPos (B + 1))
  case atStart =>
    subst hB
    have e1 : (w.alloc (.cells (three 0 0 0) 39)).heap.size = w.heap.size + 1 := by simp
    have h4 := World.iter_heap (w.alloc (.cells (three 0 0 0) 39)) s 0
    rw [e1] at h4
    exact ⟨0, 0, 0, 0, 0, ⟨(Blk.new w _ _).alloc _, h4, ((Below.refl _ _).alloc (Nat.le_refl _) _).alloc (by simp) _⟩, rfl, hide hR, by omega, by omega⟩
  case round =>
    obtain ⟨pos, k, x, y, z, hgo, rfl, hc, hk, hb⟩ := hrel
    by_cases hp : pos < s.size
    · obtain ⟨W, hW⟩ : ∃ W, W = wr.iterAt (B + 1) s (pos + wd s pos) := ⟨_, rfl⟩
      have hnx : ∀ ty, (Instr.next (.pointer (some ⟨w.heap.size + 1, 0, none⟩)) true ty).run Tryd.prog wr = .ok (.tuple #[.bool true, .int .i64 pos, .int .i32 (rn s pos)]) W := fun ty => by
        rw [hW, ← hB]; exact run_next_any_at wr (B + 1) s pos ty hgo.2.1 hp
      have hwd := wd_pos s pos hp
      have hwl := wd_le s pos hp
      have hrl := rn_le s pos
      have hgw : Goes w B W s (pos + wd s pos) x y z := by rw [hW]; exact hgo.iter (by omega)
      have Hc : Hid (R = go (step ⟨k, x, y, z⟩ (rn s pos)) (runes s (pos + wd s pos))) := hide (by rw [hc.out, Hstp.out pos hp]; rfl)
      have Hg := hide hgw
      have hmeas := pos_of hgo.2.1
      have hc0 := hgw.1.cell 0
      have hc1 := hgw.1.cell 1
      have hc2 := hgw.1.cell 2
      have hf0 := hgw.1.frozen 0
      have hf1 := hgw.1.frozen 1
      have hf2 := hgw.1.frozen 2
      rw [hB] at hc0 hc1 hc2 hf0 hf1 hf2
      unfold three at hc0 hc1 hc2
      clear hW hgo hgw hc Hend Hstp hR
      generalize wd s pos = V at *
      generalize rn s pos = X at *
      by_cases hX : X = 46
      · subst hX
        have hk3 : k = 0 ∨ k = 1 ∨ k = 2 := by omega
        rcases hk3 with rfl | rfl | rfl
        · go_wp2
          go_roundw
          case rel => exact ⟨pos + V, 1, x, y, z, Hg.out, rfl, Hc, by omega, by omega⟩
          case measure => rw [pos_of Hg.out.2.1, hmeas]; omega
        · go_wp2
          go_roundw
          case rel => exact ⟨pos + V, 2, x, y, z, Hg.out, rfl, Hc, by omega, by omega⟩
          case measure => rw [pos_of Hg.out.2.1, hmeas]; omega
        · go_wp2
          go_ret2
          have : R = none := by rw [Hc.out]; exact go_none _
          rw [this]
          exact ⟨rfl, Hg.out.2.2⟩
      · have hk3 : k = 0 ∨ k = 1 ∨ k = 2 := by omega
        rcases hk3 with rfl | rfl | rfl
        · have Hn : Hid (R = go (some ⟨0, digit x X, y, z⟩) (runes s (pos + V))) := hide (by rw [Hc.out]; simp [step, hX])
          go_wp2
          go_roundw
          case rel => exact ⟨pos + V, 0, _, _, _, by rw [← hB]; exact Hg.out.set0 (by omega) _, rfl, Hn, by omega, by omega⟩
          case measure => rw [← hB, pos_of (Hg.out.set0 (by omega) _).2.1, hmeas]; omega
        · have Hn : Hid (R = go (some ⟨1, x, digit y X, z⟩) (runes s (pos + V))) := hide (by rw [Hc.out]; simp [step, hX])
          go_wp2
          go_roundw
          case rel => exact ⟨pos + V, 1, _, _, _, by rw [← hB]; exact Hg.out.set1 (by omega) _, rfl, Hn, by omega, by omega⟩
          case measure => rw [← hB, pos_of (Hg.out.set1 (by omega) _).2.1, hmeas]; omega
        · have Hn : Hid (R = go (some ⟨2, x, y, digit z X⟩) (runes s (pos + V))) := hide (by rw [Hc.out]; simp [step, hX])
          go_wp2
          go_roundw
          case rel => exact ⟨pos + V, 2, _, _, _, by rw [← hB]; exact Hg.out.set2 (by omega) _, rfl, Hn, by omega, by omega⟩
          case measure => rw [← hB, pos_of (Hg.out.set2 (by omega) _).2.1, hmeas]; omega
    · have hnx : ∀ ty, (Instr.next (.pointer (some ⟨w.heap.size + 1, 0, none⟩)) true ty).run Tryd.prog wr = .ok (.tuple #[.bool false]) wr := fun ty => by
        rw [← hB]; exact run_next_end_at wr (B + 1) s pos ty hgo.2.1 hp
      have hRf : R = some ⟨k, x, y, z⟩ := by have := hc.out; rw [Hend.out pos hp] at this; exact this
      have hc0 := hgo.1.cell 0
      have hc1 := hgo.1.cell 1
      have hc2 := hgo.1.cell 2
      have hbw := hgo.2.2
      rw [hB] at hc0 hc1 hc2
      unfold three at hc0 hc1 hc2
      have HR := hide hRf
      clear hgo hc Hend Hstp hR hRf
      by_cases hF : Fits x y z
      · have HP := hide (place_yes x y z wr hF (HT.out.below hbw))
        have hlt := place_lt hF
        have HX := hide (fun wx hx => text_yes (placeN x y z) wx hlt hx)
        unfold three at HP
        generalize hN : placeN x y z = N at *
        by_cases he : str (txt N) = s
        · have Hfin : Hid (fin s (some ⟨k, x, y, z⟩) = some N) := hide (by unfold fin; simp only; rw [hN, if_pos ⟨hF, he⟩])
          rw [he] at HX
          clear he hN hF
          go_wp2_with (first
            | (go_at_call 50
               refine HP.out.mono ?_
               rintro e w1 ⟨rfl, hb1⟩
               have c1 : Below w.heap.size w w1 := hbw.trans (hb1.mono hbw.size))
            | (go_at_call 30
               refine (HX.out _ (HT.out.below c1)).mono ?_
               rintro e w2 ⟨rfl, hb2⟩))
          go_ret2
          rw [HR.out, Hfin.out]
          exact ⟨rfl, c1.trans (hb2.mono c1.size)⟩
        · have Hfin : Hid (fin s (some ⟨k, x, y, z⟩) = none) := hide (by unfold fin; simp only; rw [hN, if_neg (fun h => he h.2)])
          have hne := toList_ne he
          clear he hN hF
          generalize str (txt N) = S at *
          go_wp2_with (first
            | (go_at_call 50
               refine HP.out.mono ?_
               rintro e w1 ⟨rfl, hb1⟩
               have c1 : Below w.heap.size w w1 := hbw.trans (hb1.mono hbw.size))
            | (go_at_call 30
               refine (HX.out _ (HT.out.below c1)).mono ?_
               rintro e w2 ⟨rfl, hb2⟩))
          go_ret2
          rw [HR.out, Hfin.out]
          exact ⟨rfl, c1.trans (hb2.mono c1.size)⟩
      · have HP := hide (place_no x y z wr hF (HT.out.below hbw))
        have Hfin : Hid (fin s (some ⟨k, x, y, z⟩) = none) := hide (by unfold fin; simp only; rw [if_neg (fun h => hF h.1)])
        unfold three at HP
        clear hF
        go_wp2_with (first
          | (go_at_call 50
             refine HP.out.mono ?_
             rintro e w1 ⟨rfl, hb1⟩))
        go_ret2
        rw [HR.out, Hfin.out]
        exact ⟨rfl, hbw.trans (hb1.mono hbw.size)⟩
theorem rgo_take (l : List UInt8) (i : Nat) (b : UInt8) (h : l[i]? = some b) (q : Int × Int) : rgo q (l.take (i + 1)) = rstep (rgo q (l.take i)) b := by
  rw [take_snoc' l i b h, rgo_append]; rfl
theorem rread_long {s : ByteArray} (h : 11 < s.size) : rreadR s = none := by
  unfold rreadR
  simp only
  rw [if_neg (fun h' => by omega)]
theorem rread_nil : rreadR (str []) = none := by
  cases h : rreadR (str []) with
  | none => rfl
  | some p =>
    have e := (rread_some h).1
    have l := txt_len p
    rw [← str_inj.1 e] at l
    simp at l
end Go.Proofs.YtnkcjemobljpdaaDoor.Ver
