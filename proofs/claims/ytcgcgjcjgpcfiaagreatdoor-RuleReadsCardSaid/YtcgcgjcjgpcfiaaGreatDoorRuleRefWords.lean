/-
  The contract of the document's Words: the words of a piece. Condition: at most 1,000 bytes.
-/
import Derived.Test.YtcgcgjcjgpcfiaaGreatDoorRuleRefCmp
import Derived.Test.YtcgcgjcjgpcfiaaGreatDoorRuleCutM
namespace Go.Proofs.YtcgcgjcjgpcfiaaGreatDoor.Rule
open Go.RowKit Go.Lib Go.Proofs.YtcgcgjcjgpcfiaaGreatDoor.Span
set_option linter.unusedVariables false
theorem info_wordD : (Tryz.prog.info? 62).map (fun i => (i.zero, i.size, i.bytes)) = some (some (.agg #[.string ByteArray.empty, .int .i64 0]), 2, 24) := by kernel_rfl
theorem reads_word2 (w : World) (x : List UInt8) (p : Nat) (z : Int) (hz : z = (p : Int)) (T : TypeId) (g : Nat) (hg : g = w.heap.size) :
    Reads (w.alloc (.cells #[.string (str x), .int .i64 z] T)) (w.heap.size + 1) 2 (some ⟨g, 0, none⟩) 1 (wcs [(x, p)]) := by
  subst hz
  exact reads_word w x p T g hg
/-- The words from a place on. -/
def gowAt (x : List UInt8) (a i f : Nat) (ws : List W) : List W := gow (x.drop i) (a + f) (seg x f i) ws
theorem gowAt_zero (x : List UInt8) (a : Nat) : gowAt x a 0 0 [] = gow x a [] [] := by unfold gowAt; rw [seg_self]; rfl
theorem gowAt_end (x : List UInt8) (a f : Nat) (ws : List W) : gowAt x a x.length f ws = push (seg x f x.length) ws (a + f) := by
  unfold gowAt; rw [List.drop_length]; rfl
theorem gowAt_blank (x : List UInt8) {a i f : Nat} (ws : List W) (hf : f ≤ i) (hi : i < x.length) (h : x[i] = 32) : gowAt x a i f ws = gowAt x a (i + 1) (i + 1) (push (seg x f i) ws (a + f)) := by
  unfold gowAt
  rw [List.drop_eq_getElem_cons hi, h, gow, if_pos rfl, seg_self, seg_len x hf (by omega)]
  congr 1; omega
theorem gowAt_other (x : List UInt8) {a i f : Nat} (ws : List W) (hf : f ≤ i) (hi : i < x.length) (h : x[i] ≠ 32) : gowAt x a i f ws = gowAt x a (i + 1) f ws := by
  unfold gowAt
  have e : seg x i (i + 1) = [x[i]] := by
    unfold seg
    rw [Nat.add_sub_cancel_left, List.drop_eq_getElem_cons hi]
    rfl
  rw [List.drop_eq_getElem_cons hi, gow, if_neg h, ← e, seg_more x hf (by omega)]
theorem push_nil (ws : List W) (b : Nat) : push [] ws b = ws := rfl
theorem push_some {cur : List UInt8} (ws : List W) (b : Nat) (h : cur ≠ []) : push cur ws b = ws ++ [(cur, b)] := by unfold push; rw [if_neg h]
set_option maxHeartbeats 2000000 in
set_option maxRecDepth 100000 in
theorem words_any (x : List UInt8) (a : Nat) (w : World) (hx : x.length ≤ 1000) (ha : a ≤ 1000) :
    Calls Tryz.prog 32 #[.string (str x), .int .i64 (a : Int)] w fun e w' => ∃ A n c, e = .returned (.slice A n c) ∧ WdIn w' w'.heap.size A n (gow x a [] []) ∧ n ≤ 1001 ∧ Below w.heap.size w w' := by
  obtain ⟨i0, hi0, hz0, hz1, hz2⟩ := info_parts info_wordD
  obtain ⟨R, hR⟩ : ∃ R, R = gow x a [] [] := ⟨_, rfl⟩
  rw [← hR]
  have hsz := str_size x
  have H0 : Hid (R = gowAt x a 0 0 []) := hide (by rw [gowAt_zero, hR])
  clear hR
  go_enter Tryz.func32, Tryz.ntmps32
  go_wp2
  go_loopw [5, 6, 7] (fun u f i wr => ∃ (k b n : Nat) (ws : List W), ((k ≤ x.length ∧ Hid (R = gowAt x a k b ws)) ∨ (k = x.length + 1 ∧ Hid (R = ws))) ∧ wr.ownsRow w.heap.size 62 2 u n (wcs ws) ∧ f = .int .i64 (b : Int) ∧ i = .int .i64 (k : Int) ∧ b ≤ k ∧ n ≤ k ∧ Below w.heap.size w wr) (fun _ _ i _ => x.length + 2 - (intOf i).toNat)
  case atStart => exact ⟨0, 0, 0, [], .inl ⟨by omega, H0⟩, World.ownsRow_nil _ _ _ _, rfl, rfl, by omega, by omega, Below.refl _ _⟩
  case round =>
    obtain ⟨k, b, n, ws, hor, hown, rfl, rfl, hbk, hnk, hbw⟩ := hrel
    have hbs := hbw.size
    obtain ⟨A, c, rfl, _⟩ := own_form hown
    rcases hor with ⟨hk, hG⟩ | ⟨rfl, hG⟩
    · have hseg := seg_nil x hbk hk
      have hsl : b ≤ k → ∀ Wx : World, (Instr.slice 9 (.string (str x)) (some (.int .i64 (b : Int))) (some (.int .i64 (k : Int))) none).run Tryz.prog Wx = .ok (.string (str (seg x b k))) Wx := fun hb Wx => by
        rw [run_slice_string Wx 9 (str x) .i64 .i64 (b : Int) (k : Int) Tryz.underlying9 (by omega) (by omega) (by rw [str_size]; omega), Int.toNat_natCast, Int.toNat_natCast, str_extract]
        rfl
      have hsl := hsl hbk
      by_cases hc : k < x.length
      · obtain ⟨z, hz⟩ : ∃ z, x[k]? = some z := ⟨x[k], List.getElem?_eq_getElem hc⟩
        obtain ⟨hi, hy⟩ := str_get x k z hz
        have hzz : x[k] = z := (List.getElem?_eq_some_iff.1 hz).2
        clear hz
        by_cases h32 : z = 32
        · have HG := hide (hG.out.trans (gowAt_blank x ws hbk hc (hzz.trans h32)))
          have yz : ((z.toNat : Int) != 32) = false := by rw [h32]; rfl
          clear hG hzz h32
          by_cases hlt : b < k
          · have hne : seg x b k ≠ [] := fun e => by have := hseg.1 e; omega
            rw [push_some ws _ hne] at HG
            clear hne hseg
            generalize seg x b k = cur at *
            go_wp2_with (at_builtin
                         refine wpList_append_any _ rfl (.tmp 27) (.tmp 36) _ rfl w.heap.size 62 i0 _ 2 24 Tryz.underlying59 hi0 hz0 hz1 hz2 rfl (by omega) _ _ _ rfl
                           (hown.alloc _) _ _ 1 _ _ rfl (reads_word2 _ _ (a + b) _ (by omega) _ _ rfl) (wcs_one _) (by unfold maxLen; omega) (by omega) (by simp; omega) ?_
                         intro v1 w1 hown1 hg1 hat1
                         rw [← wcs_append] at hown1
                         have hb1 : Below w.heap.size w w1 := (hbw.alloc hbs _).grown hg1 (by simp; omega) (fun j hj => (hown.lt j hj).1))
            go_roundw
            case rel => exact ⟨k + 1, k + 1, n + 1, _, .inl ⟨by omega, HG⟩, hown1, by go_num, by go_num, by omega, by omega, hb1⟩
            case measure => simp [intOf]; omega
          · have hbe : b = k := by omega
            subst hbe
            rw [seg_self, push_nil] at HG
            clear hseg hsl
            go_wp2
            go_roundw
            case rel => exact ⟨b + 1, b + 1, n, _, .inl ⟨by omega, HG⟩, hown, by go_num, by go_num, by omega, by omega, hbw⟩
            case measure => simp [intOf]; omega
        · have HG := hide (hG.out.trans (gowAt_other x ws hbk hc (fun e => h32 (hzz.symm.trans e))))
          have yz : ((z.toNat : Int) != 32) = true := by
            have := ne8 (n := 32) 32 rfl h32
            simpa [bne] using this
          clear hG hzz h32 hsl hseg
          go_wp2
          go_roundw
          case rel => exact ⟨k + 1, b, n, ws, .inl ⟨by omega, HG⟩, hown, rfl, by go_num, by omega, by omega, hbw⟩
          case measure => simp [intOf]; omega
      · have hke : x.length = k := by omega
        have HG : Hid (R = push (seg x b k) ws (a + b)) := hide (by rw [hG.out]; have := gowAt_end x a b ws; rw [hke] at this; exact this)
        clear hG
        by_cases hlt : b < k
        · have hne : seg x b k ≠ [] := fun e => by have := hseg.1 e; omega
          rw [push_some ws _ hne] at HG
          clear hne hseg
          generalize seg x b k = cur at *
          go_wp2_with (at_builtin
                       refine wpList_append_any _ rfl (.tmp 27) (.tmp 36) _ rfl w.heap.size 62 i0 _ 2 24 Tryz.underlying59 hi0 hz0 hz1 hz2 rfl (by omega) _ _ _ rfl
                         (hown.alloc _) _ _ 1 _ _ rfl (reads_word2 _ _ (a + b) _ (by omega) _ _ rfl) (wcs_one _) (by unfold maxLen; omega) (by omega) (by simp; omega) ?_
                       intro v1 w1 hown1 hg1 hat1
                       rw [← wcs_append] at hown1
                       have hb1 : Below w.heap.size w w1 := (hbw.alloc hbs _).grown hg1 (by simp; omega) (fun j hj => (hown.lt j hj).1))
          go_roundw
          case rel => exact ⟨k + 1, k + 1, n + 1, _, .inr ⟨by omega, HG⟩, hown1, by go_num, by go_num, by omega, by omega, hb1⟩
          case measure => simp [intOf]; omega
        · have hbe : b = k := by omega
          subst hbe
          rw [seg_self, push_nil] at HG
          clear hseg hsl
          go_wp2
          go_roundw
          case rel => exact ⟨b + 1, b + 1, n, _, .inr ⟨by omega, HG⟩, hown, by go_num, by go_num, by omega, by omega, hbw⟩
          case measure => simp [intOf]; omega
    · clear H0
      go_wp2
      go_ret
      have hr := (own_form hown).choose_spec.choose_spec
      obtain ⟨e1, _, _, hr⟩ := hr
      injection e1 with e1 _ _
      rw [hG.out]
      exact ⟨_, _, _, rfl, wdIn_of_reads (by rw [e1]; exact hr), by omega, hbw⟩
end Go.Proofs.YtcgcgjcjgpcfiaaGreatDoor.Rule
