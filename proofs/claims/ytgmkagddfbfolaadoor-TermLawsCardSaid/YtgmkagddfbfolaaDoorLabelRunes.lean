/-
  The contract of the document's own Runes: it answers a new slice of the runes that a range over the text tells. Condition: the text has no more than 1,000,000,000 bytes.
-/
import Derived.Test.YtgmkagddfbfolaaDoorLabelRead
namespace Go.Proofs.YtgmkagddfbfolaaDoor.Label
open Go.RowKit Go.Lib
set_option linter.unusedVariables false
theorem info_int : (Tryd.prog.info? 3).map (fun i => (i.zero, i.size, i.bytes)) = some (some (.int .i64 0), 1, 8) := by kernel_rfl
def ncs (l : List Nat) : List Value := l.map fun (n : Nat) => Value.int .i64 (n : Int)
theorem ncs_length (l : List Nat) : (ncs l).length = l.length := by simp [ncs]
theorem ncs_append (l m : List Nat) : ncs (l ++ m) = ncs l ++ ncs m := by simp [ncs]
theorem ncs_at {w : World} {B n k : Nat} {A : Option Addr} {l : List Nat} (h : Reads w B 1 A n (ncs l)) (hk : k < n) : ∃ ad z, A = some ad ∧ ad.block < B ∧ l[k]? = some z ∧ w.cell? (ad.add k) = some (.int .i64 (z : Int)) := by
  obtain ⟨ad, u, hA, hb, hu, hc⟩ := h.at_ hk
  simp only [ncs, List.getElem?_map] at hu
  cases hl : l[k]? with
  | none => rw [hl] at hu; simp at hu
  | some z =>
    rw [hl] at hu
    simp at hu
    exact ⟨ad, z, hA, hb, rfl, by rw [hc, hu]⟩
theorem own_drewN {w : World} {base : Nat} {e : TypeId} {size n : Nat} {v : Value} {xs : List Value} (h : w.ownsRow base e size v n xs) (k : Nat) : (w.drewN k).ownsRow base e size v n xs := h
/-- A slice of numbers that reads so in a world. -/
def NumL (w : World) (v : Value) (l : List Nat) : Prop := ∃ A c, v = .slice A l.length c ∧ Reads w w.heap.size 1 A l.length (ncs l)
theorem NumL.below {w w' : World} {v : Value} {l : List Nat} (h : NumL w v l) (hb : Below w.heap.size w w') : NumL w' v l := by
  obtain ⟨A, c, rfl, h⟩ := h
  exact ⟨A, c, rfl, (h.below hb).more hb.size⟩
set_option maxHeartbeats 4000000 in
set_option maxRecDepth 100000 in
theorem refRunes_any (s : ByteArray) (w : World) (hs : s.size ≤ 1000000000) :
   Calls Tryd.prog 53 #[.string s] w fun e w' => ∃ v, e = .returned v ∧ NumL w' v (runes s 0) ∧ Below w.heap.size w w' ∧ w'.ownsRow w.heap.size 3 1 v (runes s 0).length (ncs (runes s 0)) := by
  obtain ⟨i0, hi0, hz0, hz1, hz2⟩ := info_parts info_int
  have u0 : (0 : Nat) < 1 := by decide
  have HR := hide (fun (i : Nat) (wx : World) => refRune_any s i wx hs)
  have Hlen := hide (runes_len s 0 (by omega))
  obtain ⟨B, hB⟩ : ∃ B, B = w.heap.size := ⟨_, rfl⟩
  go_enter Tryd.func53, Tryd.ntmps53
  go_wp2
  go_loopw [3, 4] (fun v u wr => ∃ (pos : Nat) (pre : List Nat), pos ≤ s.size ∧ u = .int .i64 (pos : Int) ∧ wr.ownsRow B 3 1 v pre.length (ncs pre) ∧ Hid (pre ++ runes s pos = runes s 0) ∧ pre.length ≤ pos ∧ Below B w wr) (fun _ u _ => s.size - (intOf u).toNat)
  case atStart => exact ⟨0, [], by omega, rfl, World.ownsRow_nil _ _ _ _, hide rfl, by simp, Below.refl _ _⟩
  case round =>
    obtain ⟨pos, pre, hp, rfl, hown, hpre, hpl, hb⟩ := hrel
    have hbs := hb.size
    by_cases hlt : pos < s.size
    · have HRi := hide (HR.out pos wr hlt)
      have hwd := wd_pos s pos hlt
      have hwl := wd_le s pos hlt
      have Hnext : Hid (pre ++ [rn s pos] ++ runes s (pos + wd s pos) = runes s 0) := hide (by rw [← hpre.out, runes_step s pos hlt]; simp)
      clear HR hpre
      generalize hW : wd s pos = W at *
      generalize hX : rn s pos = X at *
      clear hW hX
      go_wp2_with (first
        | (go_at_call 65
           refine HRi.out.mono ?_
           rintro e w1 ⟨rfl, q, rfl⟩)
        | (at_builtin
           refine wpList_append_any _ rfl (.tmp 17) (.tmp 19) _ rfl B 3 i0 _ 1 8 Tryd.underlying48 hi0 hz0 hz1 hz2 rfl (by omega) _ _ _ rfl
             (World.ownsRow.alloc (own_drewN hown _) _) _ _ 1 _ _ rfl (Reads.new1 _ _ _) (one_cell _ _) (by simp only [maxLen]; omega) (by omega) (by simp; omega) ?_
           intro v1 w1 hown2 hg1 hat1
           have hb2 : Below B w w1 := ((below_drewN hb _).alloc (by simp; omega) _).grown hg1 (by simp; omega) (fun k hk => (hown.lt k hk).1)))
      go_roundw
      case rel => exact ⟨pos + W, pre ++ [X], by omega, by go_num, by rw [List.length_append, ncs_append]; exact hown2, Hnext, by rw [List.length_append]; simp; omega, hb2⟩
      case measure => simp [intOf]; omega
    · have hp2 : pos = s.size := by omega
      subst hp2
      clear HR
      go_wp2
      go_ret
      have e := hpre.out
      rw [runes_end s s.size (by omega), List.append_nil] at e
      subst e
      obtain ⟨A, c, hv, _, _, hr⟩ := own_form hown
      rw [← hB]
      exact ⟨_, rfl, ⟨A, c, hv, hr⟩, hb, hown⟩
end Go.Proofs.YtgmkagddfbfolaaDoor.Label
