/-
  The contract of the program's Drop. Condition: the names rise; no more than 10,000 picks, names of at most 1,000,000,000 bytes.
-/
import Derived.Test.YtnkcjemobljpdaaDoorPickPut
import Derived.StillTailTactics
namespace Go.Proofs.YtnkcjemobljpdaaDoor.Pick
open Go Go.RowKit Go.Lib Go.Proofs.YtnkcjemobljpdaaDoor.Need
set_option linter.unusedVariables false
theorem wrap_small (x : Int) (h0 : -9223372036854775808 ≤ x) (h1 : x ≤ 9223372036854775807) : IntKind.i64.wrap x = x := by
  rw [IntKind.wrap_i64]; omega
theorem lsIn_drew {W : World} {A : Option Addr} {m : Nat} {ps : List (List Pk)} (h : LsIn W W.heap.size A m ps) : LsIn W.drew W.drew.heap.size A m ps := h
set_option maxHeartbeats 4000000 in
set_option maxRecDepth 100000 in
theorem dropPk_any (l : List Pk) (nm : ByteArray) (A : Option Addr) (n c : Nat) (w : World) (h : PkOn w A n l) (hr : RisesP l) (hc : n ≤ c) (hcm : c ≤ 9223372036854775807) (hl : ∀ q ∈ l, q.1.size ≤ 1000000000) (hn : n ≤ 10000) :
    Calls Tryd.prog 13 #[.slice A n c, .string nm] w (MakesP w (dropP l nm)) := by
  have hlen := h.len
  have hfl := fidx_le l nm
  have HF := hide (find_any l nm A n c w h hr (by omega))
  have HR : Hid (dropP l nm = l.take (fidx l nm) ++ l.drop (nidx l nm)) := hide (drop_fidx hr nm)
  have hne : Hid ((getP l nm).isSome = true → fidx l nm < n) := hide (fun e => by have := getP_here hr nm e; omega)
  unfold nidx at HR
  rw [hlen] at hfl
  generalize dropP l nm = R at *
  generalize fidx l nm = f at *
  generalize (getP l nm).isSome = b at *
  cases b with
  | false =>
    have HJ := hide (fun (wx : World) (Ax : Option Addr) (hx : LsIn wx wx.heap.size Ax 1 [l]) => join_any [l] Ax 1 1 wx hx
      (fun p hp q hq => by rw [List.mem_singleton.1 hp] at hq; exact hl q hq) (by omega) (by simp; omega))
    have HR2 : Hid (R = l) := hide (by rw [HR.out]; exact List.take_append_drop f l)
    clear hlen hl hr HR hne hfl
    go_enter Tryd.func13, Tryd.ntmps13
    go_wp2_with (first
      | (go_at_call 24
         refine HF.out.mono ?_
         rintro e w1 ⟨rfl, k, rfl⟩)
      | (go_at_call 25
         refine (HJ.out _ _ (lsIn1 _ _ ?_ ?_)).mono ?_
         · simp
         · exact h
         rintro e w5 ⟨A5, n5, c5, rfl, hN5, hb5⟩))
    go_ret
    refine ⟨A5, n5, c5, rfl, ?_, ((below_drewN (Below.refl _ _) k).alloc (Nat.le_refl _) _).trans (hb5.mono (by simp))⟩
    rw [HR2.out]
    simpa using hN5
  | true =>
    have hf := hne.out rfl
    have HJ := hide (fun (wx : World) (Ax : Option Addr) (hx : LsIn wx wx.heap.size Ax 2 [l.take f, l.drop (f + 1)]) => join_any [l.take f, l.drop (f + 1)] Ax 2 2 wx hx
      (fun p hp q hq => by
        simp only [List.mem_cons, List.not_mem_nil, or_false] at hp
        rcases hp with rfl | rfl
        · exact hl q (List.mem_of_mem_take hq)
        · exact hl q (List.mem_of_mem_drop hq)) (by omega) (by simp; omega))
    clear hl hr hne
    have i1 : (0 : Int) ≤ (f : Int) := by omega
    obtain ⟨g, hg⟩ : ∃ g, g = f + 1 := ⟨_, rfl⟩
    have hw : IntKind.i64.wrap ((f : Int) + 1) = (g : Int) := by rw [wrap_small _ (by omega) (by omega)]; omega
    have i2 : (g : Int) ≤ (n : Int) := by omega
    have i5 : (f : Int) ≤ (n : Int) := by omega
    have i3 : (n : Int) ≤ (c : Int) := by omega
    have i4 : (f : Int) ≤ (c : Int) := by omega
    have i6 : (0 : Int) ≤ (g : Int) := by omega
    have i7 : (g : Int) ≤ (c : Int) := by omega
    have hA := PkIn.take h (by omega : f ≤ n)
    have h9 := PkIn.cut h (by omega : g ≤ n) hc
    rw [← hg] at HJ HR
    clear hg
    go_enter Tryd.func13, Tryd.ntmps13
    go_upto_region 4 with (first
      | (go_at_call 24
         refine HF.out.mono ?_
         rintro e w1 ⟨rfl, k, rfl⟩))
    have hbW : Below w.heap.size w (w.drewN k) := below_drewN (Below.refl _ _) k
    have hA2 : PkOn (w.drewN k) A f (l.take f) := hA
    have h92 := (show PkOn (w.drewN k) _ _ _ from h9)
    generalize w.drewN k = W at *
    go_still_tail 7, (by kernel_rfl)
    change wpList _ _ _ _ _ W.drew
    have hbW2 : Below w.heap.size w W.drew := hbW.drew
    have hA3 : PkOn W.drew A f (l.take f) := hA2
    have h93 := (show PkOn W.drew _ _ _ from h92)
    obtain ⟨A9, hA9⟩ : ∃ A9, A9 = (if c = g then A else Option.map (fun x => x.add (g * 2)) A) := ⟨_, rfl⟩
    rw [← hA9] at h93
    rw [← hA9]
    clear hA9 hA2 h92 hA h9 hbW
    generalize W.drew = W2 at *
    go_wp2_with (first
      | (go_at_call 25
         refine (HJ.out _ _ (lsIn2 _ _ ?_ ?_ ?_)).mono ?_
         · simp
         · exact hA3
         · exact h93
         rintro e w5 ⟨A5, n5, c5, rfl, hN5, hb5⟩))
    go_ret
    refine ⟨A5, n5, c5, rfl, ?_, hbW2.trans (((alloc_b W2 _).trans (hb5.mono (by simp))).mono hbW2.size)⟩
    rw [HR.out]
    simpa using hN5
end Go.Proofs.YtnkcjemobljpdaaDoor.Pick
