/-
  The contract of the law's own plain. Condition: the tables hold what the texts lay in them.
-/
import Derived.Test.YtcgcgjcjgpcfiaaDoorRuleAwake
namespace Go.Proofs.YtcgcgjcjgpcfiaaDoor.Rule
open Go.RowKit Go.Lib Go.Proofs.YtcgcgjcjgpcfiaaDoor.Span
open Go.Proofs.YtcgcgjcjgpcfiaaDoor.Ver (Tabs)
set_option linter.unusedVariables false
theorem plain_step {l : List UInt8} {k : Nat} {b : UInt8} (h : l[k]? = some b) : plainL (l.drop k) = (plainB b && plainL (l.drop (k + 1))) := by
  rw [drop_at h]; rfl
theorem ne8 {a : UInt8} {n : Int} (c : UInt8) (hc : (c.toNat : Int) = n) (h : a ≠ c) : ((a.toNat : Int) == n) = false := by
  refine beq_eq_false_iff_ne.2 fun e => h ?_
  exact UInt8.toNat_inj.1 (by omega)
set_option maxHeartbeats 1000000 in
set_option maxRecDepth 100000 in
theorem plain_any (l : List UInt8) (w : World) (hl : l.length ≤ 1000) :
    Calls Tryd.prog 12 #[.string (str l)] w fun e w' => e = .returned (.bool (plainL l)) ∧ w = w' := by
  obtain ⟨R, hR⟩ : ∃ R, R = plainL l := ⟨_, rfl⟩
  rw [← hR]
  have hsz := str_size l
  go_enter Tryd.func12, Tryd.ntmps12
  go_wp2
  go_loop [3] (fun i => ∃ k : Nat, k ≤ l.length ∧ i = .int .i64 (k : Int) ∧ Hid (R = plainL (l.drop k))) (fun i => l.length - (Go.RowKit.intOf i).toNat)
  case atStart => exact ⟨0, by omega, rfl, hide hR⟩
  case round =>
    obtain ⟨k, hk, rfl, hG⟩ := hrel
    clear hR
    by_cases hc : k < l.length
    · obtain ⟨b, hb⟩ : ∃ b, l[k]? = some b := ⟨l[k], List.getElem?_eq_getElem hc⟩
      obtain ⟨hi, hx⟩ := str_get l k b hb
      have HG := hide (hG.out.trans (plain_step hb))
      clear hb hG
      have hb8 := b.toNat_lt
      by_cases h1 : b = 124
      · have HR : Hid (R = false) := hide (by rw [HG.out, h1]; rfl)
        subst h1
        clear HG
        go_wp2
        go_ret
        rw [HR.out]
        exact ⟨rfl, rfl⟩
      · have q1 : ((b.toNat : Int) == 124) = false := ne8 124 rfl h1
        by_cases h2 : 97 ≤ b.toNat
        · by_cases h3 : b.toNat ≤ 122
          · have HR : Hid (R = false) := hide (by rw [HG.out]; simp [plainB, h2, h3])
            clear HG
            go_wp2
            go_ret
            rw [HR.out]
            exact ⟨rfl, rfl⟩
          · have HR : Hid (R = plainL (l.drop (k + 1))) := hide (by rw [HG.out]; simp [plainB, h1, h3])
            clear HG
            go_wp2
            go_round
            case rel => exact ⟨k + 1, by omega, by go_num, HR⟩
            case measure => simp [Go.RowKit.intOf]; omega
        · have HR : Hid (R = plainL (l.drop (k + 1))) := hide (by rw [HG.out]; simp [plainB, h1, h2])
          clear HG
          go_wp2
          go_round
          case rel => exact ⟨k + 1, by omega, by go_num, HR⟩
          case measure => simp [Go.RowKit.intOf]; omega
    · have hk2 : k = l.length := by omega
      subst hk2
      have HR : Hid (R = true) := hide (by rw [hG.out, List.drop_length]; rfl)
      clear hG
      go_wp2
      go_ret
      rw [HR.out]
      exact ⟨rfl, rfl⟩
end Go.Proofs.YtcgcgjcjgpcfiaaDoor.Rule
