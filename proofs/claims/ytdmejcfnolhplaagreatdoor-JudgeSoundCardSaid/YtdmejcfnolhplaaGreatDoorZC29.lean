/-
  Some texts of this claim, one behind the other: PickFind, PickGet. What each proves, and its condition, stands at its head.
-/
import Derived.Test.YtdmejcfnolhplaaGreatDoorZC26
import Derived.ScopeJumps
import Derived.WalkMore
import Derived.Lib.Hide
/-
  The contract of find: where a name's pick stands, by halves, with a goto. Condition: the names rise; no more than 1,000,000 picks.
-/
namespace Go.Proofs.YtdmejcfnolhplaaGreatDoor.Pick
open Go Go.RowKit Go.Lib Go.Proofs.YtdmejcfnolhplaaGreatDoor.Need
set_option linter.unusedVariables false
set_option maxHeartbeats 8000000 in
set_option maxRecDepth 1000000 in
theorem find_any (l : List Pk) (nm : ByteArray) (A : Option Addr) (n c : Nat) (w : World) (h : PkOn w A n l) (hr : RisesP l) (hn : n ≤ 1000000) :
    Calls Tryz.prog 121 #[.slice A n c, .string nm] w fun e w' => e = .returned (.tuple #[.int .i64 (fidx l nm : Nat), .bool (getP l nm).isSome]) ∧ ∃ k, w' = w.drewN k := by
  have hlen := h.len
  have hle := fidx_le l nm
  have Hlt := hide (fidx_lt hr nm)
  have Hget := hide (fidx_get hr nm)
  rw [hlen] at hle
  have Hlen := hide hlen
  clear hlen hr
  generalize fidx l nm = f at *
  generalize getP l nm = g at *
  go_enter Tryz.func121, Tryz.ntmps121
  go_wp2
  refine wp_scope_jumps 0 (fun a' w' => w' = w ∧ ∃ (lo hi : Nat) (u8 u11 u12 u13 u14 u15 u16 u17 u18 u19 u20 u21 u22 u23 u24 u25 u26 u27 u28 u29 u30 u31 u32 u33 u34 u35 u36 u37 u38 u39 u40 u41 u42 u43 : Value), a' = { tmps := #[.slice A n c, .string nm, undef, undef, .int .i64 0, .bool false, .int .i64 (lo : Int), .int .i64 (hi : Int), u8, .slice A n c, .int .i64 (n : Int), u11, u12, u13, u14, u15, u16, u17, u18, u19, u20, u21, u22, u23, u24, u25, u26, u27, u28, u29, u30, u31, u32, u33, u34, u35, u36, u37, u38, u39, u40, u41, u42, u43], defers := [] } ∧ lo ≤ f ∧ f ≤ hi ∧ hi ≤ n) (fun a' _ => (RowKit.intOf (a'.tmps.getD 7 undef)).toNat - (RowKit.intOf (a'.tmps.getD 6 undef)).toNat) rfl ?_ ?_
  · go_upto_region 1 with fail
    go_wp2
    go_step3
    by_cases h0 : n = 0
    · subst h0
      have ef : Hid (f = 0) := hide (by omega)
      go_upto_region 3 with fail
      have e : Hid (g.isSome = false) := hide (by rw [Hget.out, ef.out, List.getElem?_eq_none (by have := Hlen.out; omega)]; rfl)
      clear Hlt Hget h hle
      go_quiet (fail)
      go_wp2
      simp only [Exit.jump]
      go_ret2
      exact ⟨by rw [e.out, ef.out]; rfl, ⟨_, rfl⟩⟩
    · have hz : ((0 : Int) == (n : Int)) = false := by simp; omega
      go_upto_region 5 with fail
      obtain ⟨m, hm, em, hm1, hm2⟩ : ∃ m : Nat, m = n / 2 ∧ (n : Int) / 2 = (m : Int) ∧ 0 ≤ m ∧ m < n := ⟨n / 2, rfl, by omega, by omega, by omega⟩
      rw [em]
      clear em hm hz
      obtain ⟨ad, q, rfl, hbl, hx, c1, c2⟩ := PkIn.at_ h (k := m) (by omega)
      have hcm := Hlt.out m q hx
      have k1 : (0 : Int) ≤ (m : Int) := by omega
      have k2 : (m : Int) < (n : Int) := by omega
      cases hb : nlt q.1 nm
      · have f1 : Op.bytesLess q.1.toList nm.toList = false := hb
        have hcm2 : ¬ m < f := fun e => by rw [hcm.2 e] at hb; cases hb
        clear hx hcm hb Hlt Hget h c2
        go_wp2
        go_step3
        refine ⟨rfl, rfl, 0, m, _, _, _, _, _, _, _, _, _, _, _, _, _, _, _, _, _, _, _, _, _, _, _, _, _, _, _, _, _, _, _, _, _, _, rfl, by omega, by omega, by omega⟩
      · have f1 : Op.bytesLess q.1.toList nm.toList = true := hb
        have hcm2 : m < f := hcm.1 hb
        clear hx hcm hb Hlt Hget h c2
        go_wp2
        go_step3
        refine ⟨rfl, rfl, m + 1, n, _, _, _, _, _, _, _, _, _, _, _, _, _, _, _, _, _, _, _, _, _, _, _, _, _, _, _, _, _, _, _, _, _, _, rfl, by omega, by omega, by omega⟩
  · rintro a' w' ⟨rfl, lo, hi, u8, u11, u12, u13, u14, u15, u16, u17, u18, u19, u20, u21, u22, u23, u24, u25, u26, u27, u28, u29, u30, u31, u32, u33, u34, u35, u36, u37, u38, u39, u40, u41, u42, u43, rfl, h1, h2, h3⟩
    by_cases h0 : lo = hi
    · subst h0
      have ef : Hid (f = lo) := hide (by omega)
      go_upto_region 3 with fail
      by_cases hlt : lo < n
      · obtain ⟨ad, q, rfl, hbl, hx, c1, c2⟩ := PkIn.at_ h hlt
        have hq := eq_names q.1 nm
        have e : Hid (g.isSome = decide (q.1 = nm)) := hide (by rw [Hget.out, ef.out, hx]; by_cases d : q.1 = nm <;> simp [d])
        have k1 : (0 : Int) ≤ (lo : Int) := by omega
        have k2 : (lo : Int) < (n : Int) := by omega
        clear hx Hlt Hget h c2 hle
        generalize decide (q.1 = nm) = d at *
        go_quiet (fail)
        go_wp2
        simp only [Exit.jump]
        go_ret2
        exact ⟨by rw [e.out, ef.out]; rfl, ⟨_, rfl⟩⟩
      · have e : Hid (g.isSome = false) := hide (by rw [Hget.out, ef.out, List.getElem?_eq_none (by have := Hlen.out; omega)]; rfl)
        have k1 : ¬ (lo : Int) < (n : Int) := by omega
        clear Hlt Hget h hle
        go_quiet (fail)
        go_wp2
        simp only [Exit.jump]
        go_ret2
        exact ⟨by rw [e.out, ef.out]; rfl, ⟨_, rfl⟩⟩
    · have hz : ((lo : Int) == (hi : Int)) = false := by simp; omega
      go_upto_region 5 with fail
      obtain ⟨m, hm, em, hm1, hm2⟩ : ∃ m : Nat, m = lo + (hi - lo) / 2 ∧ (lo : Int) + ((hi : Int) - (lo : Int)) / 2 = (m : Int) ∧ lo ≤ m ∧ m < hi := ⟨lo + (hi - lo) / 2, rfl, by omega, by omega, by omega⟩
      rw [em]
      clear em hm hz
      obtain ⟨ad, q, rfl, hbl, hx, c1, c2⟩ := PkIn.at_ h (k := m) (by omega)
      have hcm := Hlt.out m q hx
      have k1 : (0 : Int) ≤ (m : Int) := by omega
      have k2 : (m : Int) < (n : Int) := by omega
      cases hb : nlt q.1 nm
      · have f1 : Op.bytesLess q.1.toList nm.toList = false := hb
        have hcm2 : ¬ m < f := fun e => by rw [hcm.2 e] at hb; cases hb
        clear hx hcm hb Hlt Hget h c2
        go_wp2
        go_step3
        refine ⟨rfl, ⟨rfl, lo, m, _, _, _, _, _, _, _, _, _, _, _, _, _, _, _, _, _, _, _, _, _, _, _, _, _, _, _, _, _, _, _, _, _, _, rfl, by omega, by omega, by omega⟩, ?_⟩
        simp [RowKit.intOf]; omega
      · have f1 : Op.bytesLess q.1.toList nm.toList = true := hb
        have hcm2 : m < f := hcm.1 hb
        clear hx hcm hb Hlt Hget h c2
        go_wp2
        go_step3
        refine ⟨rfl, ⟨rfl, m + 1, hi, _, _, _, _, _, _, _, _, _, _, _, _, _, _, _, _, _, _, _, _, _, _, _, _, _, _, _, _, _, _, _, _, _, _, rfl, by omega, by omega, by omega⟩, ?_⟩
        simp [RowKit.intOf]; omega
end Go.Proofs.YtdmejcfnolhplaaGreatDoor.Pick
/-
  The contracts of Get, a name's version, and of the statements' Large. Condition: the names rise; no more than 1,000,000 picks.
-/
namespace Go.Proofs.YtdmejcfnolhplaaGreatDoor.Pick
open Go Go.RowKit Go.Lib Go.Proofs.YtdmejcfnolhplaaGreatDoor.Need
set_option linter.unusedVariables false
set_option maxHeartbeats 2000000 in
theorem get_any (l : List Pk) (nm : ByteArray) (A : Option Addr) (n c : Nat) (w : World) (h : PkOn w A n l) (hr : RisesP l) (hn : n ≤ 1000000) :
    Calls Tryz.prog 93 #[.slice A n c, .string nm] w fun e w' => e = .returned (.tuple #[.int .i64 ((getP l nm).getD 0), .bool (getP l nm).isSome]) ∧ ∃ k, w' = w.drewN k := by
  have HF := hide (find_any l nm A n c w h hr hn)
  have hg := fidx_get hr nm
  have hlen := h.len
  have hle := fidx_le l nm
  clear hr
  cases e : getP l nm with
  | none =>
    rw [e] at HF
    clear h hg hlen hle
    generalize fidx l nm = f at *
    go_enter Tryz.func93, Tryz.ntmps93
    go_wp2_with (go_at_call 121
                 refine HF.out.mono ?_
                 rintro e w1 ⟨rfl, k, rfl⟩)
    go_ret2
    exact ⟨rfl, _, rfl⟩
  | some v =>
    rw [e] at HF hg
    generalize fidx l nm = f at *
    have hf : f < n := by
      cases hx : l[f]? with
      | none => rw [hx] at hg; cases hg
      | some q => have := (List.getElem?_eq_some_iff.1 hx).1; omega
    obtain ⟨ad, q, rfl, hbl, hx, c1, c2⟩ := PkIn.at_ h hf
    have hv : q.2 = v := by
      rw [hx, Option.bind_some] at hg
      split at hg
      · injection hg with hg; exact hg.symm
      · cases hg
    rw [hv] at c2
    have k1 : (0 : Int) ≤ (f : Int) := by omega
    have k2 : (f : Int) < (n : Int) := by omega
    clear h hg hlen hle hx hv
    go_enter Tryz.func93, Tryz.ntmps93
    go_wp2_with (go_at_call 121
                 refine HF.out.mono ?_
                 rintro e w1 ⟨rfl, k, rfl⟩)
    go_ret2
    exact ⟨rfl, _, rfl⟩
def bigP (q : Pk) : Bool := decide (200 < q.1.size)
def largeP (l : List Pk) : Bool := decide (60 < l.length) || l.any bigP
theorem bigP_drop {l : List Pk} {i : Nat} {q : Pk} (h : l[i]? = some q) : (l.drop i).any bigP = (bigP q || (l.drop (i + 1)).any bigP) := by
  obtain ⟨hi, e⟩ := List.getElem?_eq_some_iff.1 h
  rw [List.drop_eq_getElem_cons hi, e]
  rfl
theorem largeP_no {l : List Pk} (h : largeP l = false) : l.length ≤ 60 ∧ ∀ q ∈ l, q.1.size ≤ 200 := by
  unfold largeP at h
  simp only [Bool.or_eq_false_iff, decide_eq_false_iff_not, List.any_eq_false, bigP, decide_eq_true_eq] at h
  exact ⟨by omega, fun q hq => by have := h.2 q hq; omega⟩
set_option maxHeartbeats 2000000 in
theorem largeP_any (l : List Pk) (A : Option Addr) (n c : Nat) (w : World) (h : PkOn w A n l) (hn : n ≤ 9223372036854775807) :
    Calls Tryz.prog 8 #[.slice A n c] w fun e w' => e = .returned (.bool (largeP l)) ∧ w' = w := by
  have hlen := h.len
  have e : largeP l = (decide (60 < n) || l.any bigP) := by unfold largeP; rw [hlen]
  have Hl := hide e
  have Hd := hide (fun i q => @bigP_drop l i q)
  clear e
  generalize largeP l = L at *
  obtain ⟨F, hF⟩ : ∃ F, F = l.any bigP := ⟨_, rfl⟩
  rw [← hF] at Hl
  have HF := hide hF
  have Hlen := hide hlen
  clear hF hlen
  by_cases h6 : 60 < n
  · have e : Hid (L = true) := hide (by rw [Hl.out, decide_eq_true h6]; rfl)
    have h6z : (60 : Int) < (n : Int) := by omega
    clear Hl
    go_enter Tryz.func8, Tryz.ntmps8
    go_wp2
    go_ret
    exact ⟨by rw [e.out]; rfl, rfl⟩
  · have e0 : Hid (L = F) := hide (by rw [Hl.out, decide_eq_false h6]; rfl)
    have h6z : ¬ (60 : Int) < (n : Int) := by omega
    clear Hl
    go_enter Tryz.func8, Tryz.ntmps8
    go_wp2
    go_loopw [3] (fun v wr => ∃ i : Nat, i ≤ n ∧ v = .int .i64 (i : Int) ∧ Hid (F = (l.drop i).any bigP) ∧ wr = w) (fun v _ => n - (RowKit.intOf v).toNat)
    case atStart => exact ⟨0, by omega, rfl, HF, rfl⟩
    case round =>
      obtain ⟨i, hi, rfl, hf, rfl⟩ := hrel
      by_cases hlt : i < n
      · obtain ⟨ad, q, rfl, hbl, hx, c1, c2⟩ := PkIn.at_ h hlt
        have hd := hf.out.trans (Hd.out i q hx)
        clear hx hf h
        by_cases hb : 200 < q.1.size
        · have e : Hid (F = true) := hide (by rw [hd]; unfold bigP; rw [decide_eq_true hb]; rfl)
          have hz : (200 : Int) < (q.1.size : Int) := by omega
          clear hd
          go_wp2
          go_ret
          exact ⟨by rw [e0.out, e.out]; rfl, rfl⟩
        · have e : Hid (F = (l.drop (i + 1)).any bigP) := hide (by rw [hd]; unfold bigP; rw [decide_eq_false hb]; rfl)
          have hz : ¬ (200 : Int) < (q.1.size : Int) := by omega
          clear hd
          go_wp2
          go_roundw
          case rel => exact ⟨i + 1, by omega, by go_num, e, by trivial⟩
          case measure => simp [RowKit.intOf]; omega
      · have e : Hid (F = false) := hide (by rw [hf.out, List.drop_of_length_le (by have := Hlen.out; omega)]; rfl)
        clear hf
        go_wp2
        go_ret
        exact ⟨by rw [e0.out, e.out]; rfl, rfl⟩
end Go.Proofs.YtdmejcfnolhplaaGreatDoor.Pick
