/-
  The contract of find: where a name's pick stands, by halves, with a goto. Condition: the names rise; no more than 1,000,000 picks.
-/
import Derived.Test.YtnkcjemobljpdaaDoorPickFidx
import Derived.Test.YtnkcjemobljpdaaDoorPickCells
import Derived.ScopeJumps
import Derived.WalkMore
import Derived.Lib.Hide
namespace Go.Proofs.YtnkcjemobljpdaaDoor.Pick
open Go Go.RowKit Go.Lib Go.Proofs.YtnkcjemobljpdaaDoor.Need
set_option linter.unusedVariables false
set_option maxHeartbeats 8000000 in
set_option maxRecDepth 1000000 in
theorem find_any (l : List Pk) (nm : ByteArray) (A : Option Addr) (n c : Nat) (w : World) (h : PkOn w A n l) (hr : RisesP l) (hn : n ≤ 1000000) :
    Calls Tryd.prog 24 #[.slice A n c, .string nm] w fun e w' => e = .returned (.tuple #[.int .i64 (fidx l nm : Nat), .bool (getP l nm).isSome]) ∧ ∃ k, w' = w.drewN k := by
  have hlen := h.len
  have hle := fidx_le l nm
  have Hlt := hide (fidx_lt hr nm)
  have Hget := hide (fidx_get hr nm)
  rw [hlen] at hle
  have Hlen := hide hlen
  clear hlen hr
  generalize fidx l nm = f at *
  generalize getP l nm = g at *
  go_enter Tryd.func24, Tryd.ntmps24
  go_wp2
  refine wp_scope_jumps 0 (fun a' w' => w' = w ∧ ∃ (lo hi : Nat) (u8 u11 u12 u13 u14 u15 u16 u17 u18 u19 u20 u21 u22 u23 u24 u25 u26 u27 u28 u29 u30 u31 u32 u33 u34 u35 u36 u37 u38 u39 u40 u41 u42 u43 : Value), a' = { tmps := #[.slice A n c, .string nm, undef, undef, .int .i64 0, .bool false, .int .i64 (lo : Int), .int .i64 (hi : Int), u8, .slice A n c, .int .i64 (n : Int), u11, u12, u13, u14, u15, u16, u17, u18, u19, u20, u21, u22, u23, u24, u25, u26, u27, u28, u29, u30, u31, u32, u33, u34, u35, u36, u37, u38, u39, u40, u41, u42, u43], defers := [] } ∧ lo ≤ f ∧ f ≤ hi ∧ hi ≤ n) (fun a' _ => (RowKit.intOf (a'.tmps.getD 7 undef)).toNat - (RowKit.intOf (a'.tmps.getD 6 undef)).toNat) rfl ?_ ?_
  · go_upto_region 1 with fail
    go_wp2
    go_step3
    by_cases h0 : n = 0
    · subst h0
      have ef : Hid (f = 0) := hide (by omega)
      go_upto_region 3 with fail
      have e : Hid (g.isSome = false) := hide (by rw [Hget.out, ef.out, List.getElem?_eq_none (by have := Hlen.out; omega)]; rfl)
      clear Hlt Hget h hle
      go_quiet (fail)
      go_wp2
      simp only [Exit.jump]
      go_ret2
      exact ⟨by rw [e.out, ef.out]; rfl, ⟨_, rfl⟩⟩
    · have hz : ((0 : Int) == (n : Int)) = false := by simp; omega
      go_upto_region 5 with fail
      obtain ⟨m, hm, em, hm1, hm2⟩ : ∃ m : Nat, m = n / 2 ∧ (n : Int) / 2 = (m : Int) ∧ 0 ≤ m ∧ m < n := ⟨n / 2, rfl, by omega, by omega, by omega⟩
      rw [em]
      clear em hm hz
      obtain ⟨ad, q, rfl, hbl, hx, c1, c2⟩ := PkIn.at_ h (k := m) (by omega)
      have hcm := Hlt.out m q hx
      have k1 : (0 : Int) ≤ (m : Int) := by omega
      have k2 : (m : Int) < (n : Int) := by omega
      cases hb : nlt q.1 nm
      · have f1 : Op.bytesLess q.1.toList nm.toList = false := hb
        have hcm2 : ¬ m < f := fun e => by rw [hcm.2 e] at hb; cases hb
        clear hx hcm hb Hlt Hget h c2
        go_wp2
        go_step3
        refine ⟨rfl, rfl, 0, m, _, _, _, _, _, _, _, _, _, _, _, _, _, _, _, _, _, _, _, _, _, _, _, _, _, _, _, _, _, _, _, _, _, _, rfl, by omega, by omega, by omega⟩
      · have f1 : Op.bytesLess q.1.toList nm.toList = true := hb
        have hcm2 : m < f := hcm.1 hb
        clear hx hcm hb Hlt Hget h c2
        go_wp2
        go_step3
        refine ⟨rfl, rfl, m + 1, n, _, _, _, _, _, _, _, _, _, _, _, _, _, _, _, _, _, _, _, _, _, _, _, _, _, _, _, _, _, _, _, _, _, _, rfl, by omega, by omega, by omega⟩
  · rintro a' w' ⟨rfl, lo, hi, u8, u11, u12, u13, u14, u15, u16, u17, u18, u19, u20, u21, u22, u23, u24, u25, u26, u27, u28, u29, u30, u31, u32, u33, u34, u35, u36, u37, u38, u39, u40, u41, u42, u43, rfl, h1, h2, h3⟩
    by_cases h0 : lo = hi
    · subst h0
      have ef : Hid (f = lo) := hide (by omega)
      go_upto_region 3 with fail
      by_cases hlt : lo < n
      · obtain ⟨ad, q, rfl, hbl, hx, c1, c2⟩ := PkIn.at_ h hlt
        have hq := eq_names q.1 nm
        have e : Hid (g.isSome = decide (q.1 = nm)) := hide (by rw [Hget.out, ef.out, hx]; by_cases d : q.1 = nm <;> simp [d])
        have k1 : (0 : Int) ≤ (lo : Int) := by omega
        have k2 : (lo : Int) < (n : Int) := by omega
        clear hx Hlt Hget h c2 hle
        generalize decide (q.1 = nm) = d at *
        go_quiet (fail)
        go_wp2
        simp only [Exit.jump]
        go_ret2
        exact ⟨by rw [e.out, ef.out]; rfl, ⟨_, rfl⟩⟩
      · have e : Hid (g.isSome = false) := hide (by rw [Hget.out, ef.out, List.getElem?_eq_none (by have := Hlen.out; omega)]; rfl)
        have k1 : ¬ (lo : Int) < (n : Int) := by omega
        clear Hlt Hget h hle
        go_quiet (fail)
        go_wp2
        simp only [Exit.jump]
        go_ret2
        exact ⟨by rw [e.out, ef.out]; rfl, ⟨_, rfl⟩⟩
    · have hz : ((lo : Int) == (hi : Int)) = false := by simp; omega
      go_upto_region 5 with fail
      obtain ⟨m, hm, em, hm1, hm2⟩ : ∃ m : Nat, m = lo + (hi - lo) / 2 ∧ (lo : Int) + ((hi : Int) - (lo : Int)) / 2 = (m : Int) ∧ lo ≤ m ∧ m < hi := ⟨lo + (hi - lo) / 2, rfl, by omega, by omega, by omega⟩
      rw [em]
      clear em hm hz
      obtain ⟨ad, q, rfl, hbl, hx, c1, c2⟩ := PkIn.at_ h (k := m) (by omega)
      have hcm := Hlt.out m q hx
      have k1 : (0 : Int) ≤ (m : Int) := by omega
      have k2 : (m : Int) < (n : Int) := by omega
      cases hb : nlt q.1 nm
      · have f1 : Op.bytesLess q.1.toList nm.toList = false := hb
        have hcm2 : ¬ m < f := fun e => by rw [hcm.2 e] at hb; cases hb
        clear hx hcm hb Hlt Hget h c2
        go_wp2
        go_step3
        refine ⟨rfl, ⟨rfl, lo, m, _, _, _, _, _, _, _, _, _, _, _, _, _, _, _, _, _, _, _, _, _, _, _, _, _, _, _, _, _, _, _, _, _, _, rfl, by omega, by omega, by omega⟩, ?_⟩
        simp [RowKit.intOf]; omega
      · have f1 : Op.bytesLess q.1.toList nm.toList = true := hb
        have hcm2 : m < f := hcm.1 hb
        clear hx hcm hb Hlt Hget h c2
        go_wp2
        go_step3
        refine ⟨rfl, ⟨rfl, m + 1, hi, _, _, _, _, _, _, _, _, _, _, _, _, _, _, _, _, _, _, _, _, _, _, _, _, _, _, _, _, _, _, _, _, _, _, rfl, by omega, by omega, by omega⟩, ?_⟩
        simp [RowKit.intOf]; omega
end Go.Proofs.YtnkcjemobljpdaaDoor.Pick
