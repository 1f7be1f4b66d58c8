/-
  The contract of the document's sign: how many bytes of a word are a sign. No condition.
-/
import Derived.Test.YtcgcgjcjgpcfiaaGreatDoorRuleRead
namespace Go.Proofs.YtcgcgjcjgpcfiaaGreatDoor.Rule
open Go.RowKit Go.Lib
set_option linter.unusedVariables false
set_option linter.unusedSimpArgs false
theorem ne8 {a : UInt8} {n : Int} (c : UInt8) (hc : (c.toNat : Int) = n) (h : a ≠ c) : ((a.toNat : Int) == n) = false := by
  refine beq_eq_false_iff_ne.2 fun e => h ?_
  exact UInt8.toNat_inj.1 (by omega)
theorem eq8 {a : UInt8} {n : Int} (c : UInt8) (hc : (c.toNat : Int) = n) (h : a = c) : ((a.toNat : Int) == n) = true := by
  rw [h, beq_iff_eq]; exact hc
set_option maxHeartbeats 1000000 in
set_option maxRecDepth 100000 in
theorem sign_none (w : World) : Calls Tryz.prog 20 #[.string (str [])] w fun e w' => e = .returned (.int .i64 0) ∧ w = w' := by
  have hs : (str []).size = 0 := rfl
  generalize str [] = L at *
  go_enter Tryz.func20, Tryz.ntmps20
  go_wp2
  go_ret
  exact ⟨rfl, rfl⟩
set_option maxHeartbeats 1000000 in
set_option maxRecDepth 100000 in
theorem sign_one (a : UInt8) (w : World) : Calls Tryz.prog 20 #[.string (str [a])] w fun e w' => e = .returned (.int .i64 (sgn [a] : Nat)) ∧ w = w' := by
  obtain ⟨hi, hx⟩ := str_get [a] 0 a rfl
  have hs : (str [a]).size = 1 := rfl
  generalize str [a] = L at *
  by_cases a61 : a = 61
  · have y61 : ((a.toNat : Int) == 61) = true := eq8 61 rfl a61
    have hv : sgn [a] = 1 := by rw [a61]; rfl
    rw [hv]
    clear hv
    go_enter Tryz.func20, Tryz.ntmps20
    go_wp2
    go_ret
    exact ⟨rfl, rfl⟩
  · have y61 : ((a.toNat : Int) == 61) = false := ne8 61 rfl a61
    by_cases a62 : a = 62
    · have y62 : ((a.toNat : Int) == 62) = true := eq8 62 rfl a62
      have hv : sgn [a] = 1 := by rw [a62]; rfl
      rw [hv]
      clear hv
      go_enter Tryz.func20, Tryz.ntmps20
      go_wp2
      go_ret
      exact ⟨rfl, rfl⟩
    · have y62 : ((a.toNat : Int) == 62) = false := ne8 62 rfl a62
      by_cases a60 : a = 60
      · have y60 : ((a.toNat : Int) == 60) = true := eq8 60 rfl a60
        have hv : sgn [a] = 1 := by rw [a60]; rfl
        rw [hv]
        clear hv
        go_enter Tryz.func20, Tryz.ntmps20
        go_wp2
        go_ret
        exact ⟨rfl, rfl⟩
      · have y60 : ((a.toNat : Int) == 60) = false := ne8 60 rfl a60
        by_cases a94 : a = 94
        · have y94 : ((a.toNat : Int) == 94) = true := eq8 94 rfl a94
          have hv : sgn [a] = 1 := by rw [a94]; rfl
          rw [hv]
          clear hv
          go_enter Tryz.func20, Tryz.ntmps20
          go_wp2
          go_ret
          exact ⟨rfl, rfl⟩
        · have y94 : ((a.toNat : Int) == 94) = false := ne8 94 rfl a94
          by_cases a126 : a = 126
          · have y126 : ((a.toNat : Int) == 126) = true := eq8 126 rfl a126
            have hv : sgn [a] = 1 := by rw [a126]; rfl
            rw [hv]
            clear hv
            go_enter Tryz.func20, Tryz.ntmps20
            go_wp2
            go_ret
            exact ⟨rfl, rfl⟩
          · have y126 : ((a.toNat : Int) == 126) = false := ne8 126 rfl a126
            have hv : sgn [a] = 0 := by simp [sgn, sg, a61, a62, a60, a94, a126]
            rw [hv]
            clear hv
            go_enter Tryz.func20, Tryz.ntmps20
            go_wp2
            go_ret
            exact ⟨rfl, rfl⟩
set_option maxHeartbeats 1000000 in
set_option maxRecDepth 100000 in
theorem sign_eq (a b : UInt8) (r : List UInt8) (w : World) (hr : r.length ≤ 1000000) (hb : b = 61) : Calls Tryz.prog 20 #[.string (str (a :: b :: r))] w fun e w' => e = .returned (.int .i64 (sgn (a :: b :: r) : Nat)) ∧ w = w' := by
  obtain ⟨hi, hx⟩ := str_get (a :: b :: r) 0 a rfl
  obtain ⟨hj, hy⟩ := str_get (a :: b :: r) 1 b rfl
  have hs : (str (a :: b :: r)).size ≤ 1000002 := by rw [str_size]; simp; omega
  have hs2 : 2 ≤ (str (a :: b :: r)).size := by rw [str_size]; simp
  have yb : ((b.toNat : Int) == 61) = true := eq8 61 rfl hb
  generalize str (a :: b :: r) = L at *
  by_cases a61 : a = 61
  · have y61 : ((a.toNat : Int) == 61) = true := eq8 61 rfl a61
    have hv : sgn (a :: b :: r) = 1 := by simp [sgn, sg, hb, a61]
    rw [hv]
    clear hv
    go_enter Tryz.func20, Tryz.ntmps20
    go_wp2
    go_ret
    exact ⟨rfl, rfl⟩
  · have y61 : ((a.toNat : Int) == 61) = false := ne8 61 rfl a61
    by_cases a62 : a = 62
    · have y62 : ((a.toNat : Int) == 62) = true := eq8 62 rfl a62
      have hv : sgn (a :: b :: r) = 2 := by simp [sgn, sg, hb, a62, a61]
      rw [hv]
      clear hv
      go_enter Tryz.func20, Tryz.ntmps20
      go_wp2
      go_ret
      exact ⟨rfl, rfl⟩
    · have y62 : ((a.toNat : Int) == 62) = false := ne8 62 rfl a62
      by_cases a60 : a = 60
      · have y60 : ((a.toNat : Int) == 60) = true := eq8 60 rfl a60
        have hv : sgn (a :: b :: r) = 2 := by simp [sgn, sg, hb, a60, a61, a62]
        rw [hv]
        clear hv
        go_enter Tryz.func20, Tryz.ntmps20
        go_wp2
        go_ret
        exact ⟨rfl, rfl⟩
      · have y60 : ((a.toNat : Int) == 60) = false := ne8 60 rfl a60
        by_cases a94 : a = 94
        · have y94 : ((a.toNat : Int) == 94) = true := eq8 94 rfl a94
          have hv : sgn (a :: b :: r) = 1 := by simp [sgn, sg, hb, a94, a61, a62, a60]
          rw [hv]
          clear hv
          go_enter Tryz.func20, Tryz.ntmps20
          go_wp2
          go_ret
          exact ⟨rfl, rfl⟩
        · have y94 : ((a.toNat : Int) == 94) = false := ne8 94 rfl a94
          by_cases a126 : a = 126
          · have y126 : ((a.toNat : Int) == 126) = true := eq8 126 rfl a126
            have hv : sgn (a :: b :: r) = 1 := by simp [sgn, sg, hb, a126, a61, a62, a60, a94]
            rw [hv]
            clear hv
            go_enter Tryz.func20, Tryz.ntmps20
            go_wp2
            go_ret
            exact ⟨rfl, rfl⟩
          · have y126 : ((a.toNat : Int) == 126) = false := ne8 126 rfl a126
            have hv : sgn (a :: b :: r) = 0 := by simp [sgn, sg, hb, a61, a62, a60, a94, a126]
            rw [hv]
            clear hv
            go_enter Tryz.func20, Tryz.ntmps20
            go_wp2
            go_ret
            exact ⟨rfl, rfl⟩
set_option maxHeartbeats 1000000 in
set_option maxRecDepth 100000 in
theorem sign_ne (a b : UInt8) (r : List UInt8) (w : World) (hr : r.length ≤ 1000000) (hb : b ≠ 61) : Calls Tryz.prog 20 #[.string (str (a :: b :: r))] w fun e w' => e = .returned (.int .i64 (sgn (a :: b :: r) : Nat)) ∧ w = w' := by
  obtain ⟨hi, hx⟩ := str_get (a :: b :: r) 0 a rfl
  obtain ⟨hj, hy⟩ := str_get (a :: b :: r) 1 b rfl
  have hs : (str (a :: b :: r)).size ≤ 1000002 := by rw [str_size]; simp; omega
  have hs2 : 2 ≤ (str (a :: b :: r)).size := by rw [str_size]; simp
  have yb : ((b.toNat : Int) == 61) = false := ne8 61 rfl hb
  generalize str (a :: b :: r) = L at *
  by_cases a61 : a = 61
  · have y61 : ((a.toNat : Int) == 61) = true := eq8 61 rfl a61
    have hv : sgn (a :: b :: r) = 1 := by simp [sgn, sg, hb, a61]
    rw [hv]
    clear hv
    go_enter Tryz.func20, Tryz.ntmps20
    go_wp2
    go_ret
    exact ⟨rfl, rfl⟩
  · have y61 : ((a.toNat : Int) == 61) = false := ne8 61 rfl a61
    by_cases a62 : a = 62
    · have y62 : ((a.toNat : Int) == 62) = true := eq8 62 rfl a62
      have hv : sgn (a :: b :: r) = 1 := by simp [sgn, sg, hb, a62, a61]
      rw [hv]
      clear hv
      go_enter Tryz.func20, Tryz.ntmps20
      go_wp2
      go_ret
      exact ⟨rfl, rfl⟩
    · have y62 : ((a.toNat : Int) == 62) = false := ne8 62 rfl a62
      by_cases a60 : a = 60
      · have y60 : ((a.toNat : Int) == 60) = true := eq8 60 rfl a60
        have hv : sgn (a :: b :: r) = 1 := by simp [sgn, sg, hb, a60, a61, a62]
        rw [hv]
        clear hv
        go_enter Tryz.func20, Tryz.ntmps20
        go_wp2
        go_ret
        exact ⟨rfl, rfl⟩
      · have y60 : ((a.toNat : Int) == 60) = false := ne8 60 rfl a60
        by_cases a94 : a = 94
        · have y94 : ((a.toNat : Int) == 94) = true := eq8 94 rfl a94
          have hv : sgn (a :: b :: r) = 1 := by simp [sgn, sg, hb, a94, a61, a62, a60]
          rw [hv]
          clear hv
          go_enter Tryz.func20, Tryz.ntmps20
          go_wp2
          go_ret
          exact ⟨rfl, rfl⟩
        · have y94 : ((a.toNat : Int) == 94) = false := ne8 94 rfl a94
          by_cases a126 : a = 126
          · have y126 : ((a.toNat : Int) == 126) = true := eq8 126 rfl a126
            have hv : sgn (a :: b :: r) = 1 := by simp [sgn, sg, hb, a126, a61, a62, a60, a94]
            rw [hv]
            clear hv
            go_enter Tryz.func20, Tryz.ntmps20
            go_wp2
            go_ret
            exact ⟨rfl, rfl⟩
          · have y126 : ((a.toNat : Int) == 126) = false := ne8 126 rfl a126
            have hv : sgn (a :: b :: r) = 0 := by simp [sgn, sg, hb, a61, a62, a60, a94, a126]
            rw [hv]
            clear hv
            go_enter Tryz.func20, Tryz.ntmps20
            go_wp2
            go_ret
            exact ⟨rfl, rfl⟩
theorem sign_any (l : List UInt8) (w : World) (hl : l.length ≤ 1000000) : Calls Tryz.prog 20 #[.string (str l)] w fun e w' => e = .returned (.int .i64 (sgn l : Nat)) ∧ w = w' := by
  match l, hl with
  | [], _ => exact sign_none w
  | [a], _ => exact sign_one a w
  | a :: b :: r, hl =>
    simp only [List.length_cons] at hl
    by_cases hb : b = 61
    · exact sign_eq a b r w (by omega) hb
    · exact sign_ne a b r w (by omega) hb
end Go.Proofs.YtcgcgjcjgpcfiaaGreatDoor.Rule
