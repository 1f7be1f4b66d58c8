/-
  Some texts of this claim, one behind the other: LabelRune, LabelWide, LabelRead, LabelRunes, LabelKindR. What each proves, and its condition, stands at its head.
-/
import Derived.Test.YtllogmokadcfmaaGreatZB5
import Derived.Test.YtllogmokadcfmaaGreatZB13
/-
  The contracts of the program's kind and letter: of which kind a rune is. Condition: a rune of at most 1,114,111.
-/
namespace Go.Proofs.YtllogmokadcfmaaGreat.Label
open Go.RowKit Go.Lib
set_option linter.unusedVariables false
set_option maxHeartbeats 800000 in
set_option maxRecDepth 100000 in
theorem kind_any (x : Nat) (w : World) (hx : x ≤ 1114111) :
   Calls Tryz.prog 65 #[.int .i32 (x : Int)] w fun e w' => e = .returned (.int .i64 (kindN x : Nat)) ∧ w = w' := by
  by_cases h45 : x = 45
  · subst h45
    go_enter Tryz.func65, Tryz.ntmps65
    go_wp2
    go_ret
    exact ⟨rfl, rfl⟩
  · have h45i : ((x : Int) == 45) = false := by rw [beq_eq_false_iff_ne]; omega
    unfold kindN
    go_enter Tryz.func65, Tryz.ntmps65
    go_wp2
    all_goals (go_ret; refine ⟨ret_int ?_, rfl⟩; repeat' split)
    all_goals first | rfl | omega
set_option maxHeartbeats 800000 in
set_option maxRecDepth 100000 in
theorem letter_any (k : Nat) (w : World) (hk : k ≤ 4) :
   Calls Tryz.prog 66 #[.int .i64 (k : Int)] w fun e w' => e = .returned (.bool (decide (k ≤ 1))) ∧ w = w' := by
  have h : k = 0 ∨ k = 1 ∨ k = 2 ∨ k = 3 ∨ k = 4 := by omega
  rcases h with rfl | rfl | rfl | rfl | rfl
  all_goals (go_enter Tryz.func66, Tryz.ntmps66; go_wp2; go_ret; exact ⟨rfl, rfl⟩)
end Go.Proofs.YtllogmokadcfmaaGreat.Label
/-
  The contracts of the document's own wide and Rune: what stands at a place of any text is what a range over the text tells. Condition: the place is in the text, which has no more than 1,000,000,000 bytes.
-/
namespace Go.Proofs.YtllogmokadcfmaaGreat.Label
open Go.RowKit Go.Lib
set_option linter.unusedVariables false
def want (b0 : Nat) : Nat := if b0 < 194 ∨ 244 < b0 then 0 else if b0 < 224 then 2 else if b0 < 240 then 3 else 4
def wideAt (s : ByteArray) (i : Nat) : Nat := wideN (s.size - i) (byt s i) (byt s (i + 1)) (byt s (i + 2)) (byt s (i + 3))
theorem wide_none (s : ByteArray) (i : Nat) (h : want (byt s i) = 0) : wideAt s i = 0 := by
  unfold want at h
  unfold wideAt wideN
  by_cases c : byt s i < 194 ∨ 244 < byt s i
  · rw [if_pos c]
  · rw [if_neg c] at h
    split at h
    · omega
    · split at h <;> omega
theorem want_form (b : Nat) : (want b = 0 ∧ (b < 194 ∨ 244 < b)) ∨ (want b = 2 ∧ 194 ≤ b ∧ b < 224) ∨ (want b = 3 ∧ 224 ≤ b ∧ b < 240) ∨ (want b = 4 ∧ 240 ≤ b ∧ b ≤ 244) := by
  unfold want
  split
  · omega
  · split
    · omega
    · split <;> omega
theorem wide_short (s : ByteArray) (i : Nat) (h : s.size - i < want (byt s i)) : wideAt s i = 0 := by
  have hw := want_form (byt s i)
  unfold wideAt wideN
  split
  · rfl
  · rw [if_pos]
    repeat' split
    all_goals omega
theorem wide_bad (s : ByteArray) (i k : Nat) (h1 : 1 ≤ k) (h : k < want (byt s i)) (hb : byt s (i + k) < 128 ∨ 191 < byt s (i + k)) : wideAt s i = 0 := by
  have hw := want_form (byt s i)
  have hk : k = 1 ∨ k = 2 ∨ k = 3 := by omega
  unfold wideAt wideN
  rcases hk with rfl | rfl | rfl
  all_goals (repeat' split)
  all_goals omega
def odd (b0 b1 : Nat) : Prop := (b0 = 224 ∧ b1 < 160) ∨ (b0 = 237 ∧ 159 < b1) ∨ (b0 = 240 ∧ b1 < 144) ∨ (b0 = 244 ∧ 143 < b1)
theorem wide_odd (s : ByteArray) (i : Nat) (h : odd (byt s i) (byt s (i + 1))) : wideAt s i = 0 := by
  unfold odd at h
  unfold wideAt wideN
  repeat' split
  all_goals omega
theorem wide_good (s : ByteArray) (i : Nat) (h0 : want (byt s i) ≠ 0) (hs : want (byt s i) ≤ s.size - i) (hg : ∀ k, 1 ≤ k → k < want (byt s i) → 128 ≤ byt s (i + k) ∧ byt s (i + k) ≤ 191)
    (ho : ¬ odd (byt s i) (byt s (i + 1))) : wideAt s i = want (byt s i) := by
  have hw := want_form (byt s i)
  unfold odd at ho
  unfold wideAt wideN
  rcases hw with ⟨h, c⟩ | ⟨h, c⟩ | ⟨h, c⟩ | ⟨h, c⟩
  · omega
  · have g1 := hg 1 (by omega) (by omega)
    repeat' split
    all_goals omega
  · have g1 := hg 1 (by omega) (by omega)
    have g2 := hg 2 (by omega) (by omega)
    repeat' split
    all_goals omega
  · have g1 := hg 1 (by omega) (by omega)
    have g2 := hg 2 (by omega) (by omega)
    have g3 := hg 3 (by omega) (by omega)
    repeat' split
    all_goals omega
def acc (s : ByteArray) (i b : Nat) : Nat → Nat
  | 0 => b
  | k + 1 => acc s i b k * 64 + byt s (i + (k + 1)) % 64
theorem acc_lt (s : ByteArray) (i b : Nat) (hb : b < 32) : ∀ k, k ≤ 3 → acc s i b k < 32 * 262144 := by
  intro k hk
  have h : k = 0 ∨ k = 1 ∨ k = 2 ∨ k = 3 := by omega
  rcases h with rfl | rfl | rfl | rfl <;> simp only [acc] <;> omega
def base (b0 n : Nat) : Nat := if n = 3 then b0 % 16 else if n = 4 then b0 % 8 else b0 % 32
theorem base_lt (b0 n : Nat) : base b0 n < 32 := by
  unfold base
  repeat' split
  all_goals omega
theorem wideN_form (n b0 b1 b2 b3 : Nat) : wideN n b0 b1 b2 b3 = 0 ∨ (194 ≤ b0 ∧ b0 ≤ 244 ∧ wideN n b0 b1 b2 b3 = (if b0 < 224 then 2 else if b0 < 240 then 3 else 4)) := by
  unfold wideN
  split
  · exact .inl rfl
  · repeat' split
    all_goals first | exact .inl rfl | exact .inr ⟨by omega, by omega, rfl⟩
theorem dec_wide (s : ByteArray) (i : Nat) (hi : i < s.size) (hb : 128 ≤ byt s i) (h0 : wideAt s i = 0) : rn s i = 65533 ∧ wd s i = 1 := by
  have h := wide_dec (s.size - i) (byt s i) (byt s (i + 1)) (byt s (i + 2)) (byt s (i + 3)) (by omega) (byt_lt _ _) (byt_lt _ _) (byt_lt _ _) (byt_lt _ _) hb
  unfold wideAt at h0
  rw [if_pos h0, ← dec_eq] at h
  exact ⟨congrArg Prod.fst h, congrArg Prod.snd h⟩
theorem dec_good (s : ByteArray) (i n : Nat) (hi : i < s.size) (hb : 128 ≤ byt s i) (h0 : wideAt s i = n) (hn : n ≠ 0) : rn s i = acc s i (base (byt s i) n) (n - 1) ∧ wd s i = n ∧ 2 ≤ n ∧ n ≤ 4 := by
  have h := wide_dec (s.size - i) (byt s i) (byt s (i + 1)) (byt s (i + 2)) (byt s (i + 3)) (by omega) (byt_lt _ _) (byt_lt _ _) (byt_lt _ _) (byt_lt _ _) hb
  unfold wideAt at h0
  rw [if_neg (by omega), ← dec_eq] at h
  have hf := wideN_form (s.size - i) (byt s i) (byt s (i + 1)) (byt s (i + 2)) (byt s (i + 3))
  rw [h0] at hf
  rcases hf with hf | ⟨c1, c2, hf⟩
  · omega
  unfold rn wd
  rw [h]
  by_cases d2 : byt s i < 224
  · rw [if_pos d2] at hf ⊢
    subst hf
    exact ⟨rfl, rfl, by omega, by omega⟩
  · rw [if_neg d2] at hf ⊢
    by_cases d3 : byt s i < 240
    · rw [if_pos d3] at hf ⊢
      subst hf
      exact ⟨rfl, rfl, by omega, by omega⟩
    · rw [if_neg d3] at hf ⊢
      subst hf
      exact ⟨rfl, rfl, by omega, by omega⟩
theorem dec_one (s : ByteArray) (i : Nat) (hb : byt s i < 128) : rn s i = byt s i ∧ wd s i = 1 := by
  unfold rn wd
  rw [dec_eq]
  unfold decodeN
  rw [if_pos hb]
  exact ⟨rfl, rfl⟩
set_option maxHeartbeats 4000000 in
set_option maxRecDepth 100000 in
theorem refWide_any (s : ByteArray) (i : Nat) (w : World) (hs : s.size ≤ 1000000000) (hi : i < s.size) :
   Calls Tryz.prog 115 #[.string s, .int .i64 (i : Int)] w fun e w' => e = .returned (.int .i64 (wideAt s i : Nat)) ∧ ∃ k, w' = w.drewN k := by
  have hw := want_form (byt s i)
  have hb0 := byt_lt s i
  have B0 : ∀ h : i < s.size, (s[i]'h).toNat = byt s i := fun h => byt_at s i h
  have B1 : ∀ h : i + 1 < s.size, (s[i + 1]'h).toNat = byt s (i + 1) := fun h => byt_at s (i + 1) h
  have Hnone := hide (wide_none s i)
  have Hshort := hide (wide_short s i)
  have Hbad := hide (wide_bad s i)
  have Hodd := hide (wide_odd s i)
  have Hgood := hide (wide_good s i)
  by_cases c0 : byt s i < 194 ∨ 244 < byt s i
  · have h0 : want (byt s i) = 0 := by omega
    rw [Hnone.out h0]
    clear Hnone Hshort Hbad Hodd Hgood hw h0 B1
    go_enter Tryz.func115, Tryz.ntmps115
    rcases c0 with c0 | c0
    · go_wp2
      go_ret
      exact ⟨rfl, 0, rfl⟩
    · go_wp2
      go_ret
      exact ⟨rfl, 0, rfl⟩
  · clear Hnone
    by_cases c1 : s.size - i < want (byt s i)
    · rw [Hshort.out c1]
      clear Hshort Hbad Hodd Hgood B1
      go_enter Tryz.func115, Tryz.ntmps115
      rcases hw with ⟨h, c⟩ | ⟨h, c⟩ | ⟨h, c⟩ | ⟨h, c⟩
      · omega
      all_goals (rw [h] at c1; clear h c0; go_wp2; go_ret; exact ⟨rfl, 0, rfl⟩)
    · clear Hshort
      rcases hw with ⟨h, c⟩ | ⟨h, c⟩ | ⟨h, c⟩ | ⟨h, c⟩
      · omega
      · rw [h] at Hbad Hgood c1
        clear c0 h
        go_enter Tryz.func115, Tryz.ntmps115
        go_upto_region 12 with fail
        go_loopw [7] (fun u wr => ∃ k q : Nat, 1 ≤ k ∧ k ≤ 2 ∧ u = .int .i64 (k : Int) ∧ wr = w.drewN q ∧ Hid (∀ j, 1 ≤ j → j < k → 128 ≤ byt s (i + j) ∧ byt s (i + j) ≤ 191)) (fun u _ => 2 - (intOf u).toNat)
        case atStart => exact ⟨1, 0, by omega, by omega, rfl, rfl, hide (fun j h1 h2 => by omega)⟩
        case round =>
          obtain ⟨k, q, hk1, hk2, rfl, rfl, hall⟩ := hrel
          by_cases hk : k < 2
          · have Bk : ∀ h : i + k < s.size, (s[i + k]'h).toNat = byt s (i + k) := fun h => byt_at s (i + k) h
            have Hstep : Hid (128 ≤ byt s (i + k) → byt s (i + k) ≤ 191 → ∀ j, 1 ≤ j → j < k + 1 → 128 ≤ byt s (i + j) ∧ byt s (i + j) ≤ 191) := hide (fun a b j h1 h2 => by
              by_cases e : j = k
              · subst e; exact And.intro a b
              · exact hall.out j h1 (by omega))
            have Hbk := hide (Hbad.out k hk1 hk)
            have hbk := byt_lt s (i + k)
            clear hall Hbad Hodd Hgood B1
            by_cases d1 : byt s (i + k) < 128
            · go_wp2
              go_ret
              exact ⟨by rw [Hbk.out (.inl d1)]; rfl, q, rfl⟩
            · by_cases d2 : 191 < byt s (i + k)
              · go_wp2
                go_ret
                exact ⟨by rw [Hbk.out (.inr d2)]; rfl, q, rfl⟩
              · go_wp2
                go_roundw
                case rel => exact ⟨k + 1, q, by omega, by omega, by go_num, rfl, hide (Hstep.out (by omega) (by omega))⟩
                case measure => simp [intOf]; omega
          · have hk3 : k = 2 := by omega
            subst hk3
            have Hg := hide (Hgood.out (by decide) (by omega) hall.out)
            have hb1 := byt_lt s (i + 1)
            clear hall Hbad Hgood
            go_upto_region 17 with fail
            by_cases ho : odd (byt s i) (byt s (i + 1))
            · have Ho := hide (Hodd.out ho)
              clear Hodd Hg
              unfold odd at ho
              rcases ho with ⟨e, o⟩ | ⟨e, o⟩ | ⟨e, o⟩ | ⟨e, o⟩
              all_goals first | (exfalso; omega) | (go_wp2; go_ret; exact ⟨by rw [Ho.out]; rfl, q, rfl⟩)
            · have Ho := hide (Hg.out ho)
              clear Hodd Hg
              unfold odd at ho
              by_cases e1 : byt s i = 224
              · first | (exfalso; omega) | (have o : ¬ byt s (i + 1) < 160 := by omega
                                            clear ho; go_wp2; go_ret; exact ⟨by rw [Ho.out]; rfl, q, rfl⟩)
              · by_cases e2 : byt s i = 237
                · first | (exfalso; omega) | (have o : ¬ 159 < byt s (i + 1) := by omega
                                              clear ho; go_wp2; go_ret; exact ⟨by rw [Ho.out]; rfl, q, rfl⟩)
                · by_cases e3 : byt s i = 240
                  · first | (exfalso; omega) | (have o : ¬ byt s (i + 1) < 144 := by omega
                                                clear ho; go_wp2; go_ret; exact ⟨by rw [Ho.out]; rfl, q, rfl⟩)
                  · by_cases e4 : byt s i = 244
                    · first | (exfalso; omega) | (have o : ¬ 143 < byt s (i + 1) := by omega
                                                  clear ho; go_wp2; go_ret; exact ⟨by rw [Ho.out]; rfl, q, rfl⟩)
                    · have f1 : ((byt s i : Int) == 224) = false := by rw [beq_eq_false_iff_ne]; omega
                      have f2 : ((byt s i : Int) == 237) = false := by rw [beq_eq_false_iff_ne]; omega
                      have f3 : ((byt s i : Int) == 240) = false := by rw [beq_eq_false_iff_ne]; omega
                      have f4 : ((byt s i : Int) == 244) = false := by rw [beq_eq_false_iff_ne]; omega
                      clear ho
                      go_wp2; go_ret; exact ⟨by rw [Ho.out]; rfl, q, rfl⟩
      · rw [h] at Hbad Hgood c1
        clear c0 h
        have f223 : ¬ ((byt s i : Int) ≤ 223) := by omega
        go_enter Tryz.func115, Tryz.ntmps115
        go_upto_region 12 with fail
        go_loopw [7] (fun u wr => ∃ k q : Nat, 1 ≤ k ∧ k ≤ 3 ∧ u = .int .i64 (k : Int) ∧ wr = w.drewN q ∧ Hid (∀ j, 1 ≤ j → j < k → 128 ≤ byt s (i + j) ∧ byt s (i + j) ≤ 191)) (fun u _ => 3 - (intOf u).toNat)
        case atStart => exact ⟨1, 0, by omega, by omega, rfl, rfl, hide (fun j h1 h2 => by omega)⟩
        case round =>
          obtain ⟨k, q, hk1, hk2, rfl, rfl, hall⟩ := hrel
          by_cases hk : k < 3
          · have Bk : ∀ h : i + k < s.size, (s[i + k]'h).toNat = byt s (i + k) := fun h => byt_at s (i + k) h
            have Hstep : Hid (128 ≤ byt s (i + k) → byt s (i + k) ≤ 191 → ∀ j, 1 ≤ j → j < k + 1 → 128 ≤ byt s (i + j) ∧ byt s (i + j) ≤ 191) := hide (fun a b j h1 h2 => by
              by_cases e : j = k
              · subst e; exact And.intro a b
              · exact hall.out j h1 (by omega))
            have Hbk := hide (Hbad.out k hk1 hk)
            have hbk := byt_lt s (i + k)
            clear hall Hbad Hodd Hgood B1
            by_cases d1 : byt s (i + k) < 128
            · go_wp2
              go_ret
              exact ⟨by rw [Hbk.out (.inl d1)]; rfl, q, rfl⟩
            · by_cases d2 : 191 < byt s (i + k)
              · go_wp2
                go_ret
                exact ⟨by rw [Hbk.out (.inr d2)]; rfl, q, rfl⟩
              · go_wp2
                go_roundw
                case rel => exact ⟨k + 1, q, by omega, by omega, by go_num, rfl, hide (Hstep.out (by omega) (by omega))⟩
                case measure => simp [intOf]; omega
          · have hk3 : k = 3 := by omega
            subst hk3
            have Hg := hide (Hgood.out (by decide) (by omega) hall.out)
            have hb1 := byt_lt s (i + 1)
            clear hall Hbad Hgood
            go_upto_region 17 with fail
            by_cases ho : odd (byt s i) (byt s (i + 1))
            · have Ho := hide (Hodd.out ho)
              clear Hodd Hg
              unfold odd at ho
              rcases ho with ⟨e, o⟩ | ⟨e, o⟩ | ⟨e, o⟩ | ⟨e, o⟩
              all_goals first | (exfalso; omega) | (go_wp2; go_ret; exact ⟨by rw [Ho.out]; rfl, q, rfl⟩)
            · have Ho := hide (Hg.out ho)
              clear Hodd Hg
              unfold odd at ho
              by_cases e1 : byt s i = 224
              · first | (exfalso; omega) | (have o : ¬ byt s (i + 1) < 160 := by omega
                                            clear ho; go_wp2; go_ret; exact ⟨by rw [Ho.out]; rfl, q, rfl⟩)
              · by_cases e2 : byt s i = 237
                · first | (exfalso; omega) | (have o : ¬ 159 < byt s (i + 1) := by omega
                                              clear ho; go_wp2; go_ret; exact ⟨by rw [Ho.out]; rfl, q, rfl⟩)
                · by_cases e3 : byt s i = 240
                  · first | (exfalso; omega) | (have o : ¬ byt s (i + 1) < 144 := by omega
                                                clear ho; go_wp2; go_ret; exact ⟨by rw [Ho.out]; rfl, q, rfl⟩)
                  · by_cases e4 : byt s i = 244
                    · first | (exfalso; omega) | (have o : ¬ 143 < byt s (i + 1) := by omega
                                                  clear ho; go_wp2; go_ret; exact ⟨by rw [Ho.out]; rfl, q, rfl⟩)
                    · have f1 : ((byt s i : Int) == 224) = false := by rw [beq_eq_false_iff_ne]; omega
                      have f2 : ((byt s i : Int) == 237) = false := by rw [beq_eq_false_iff_ne]; omega
                      have f3 : ((byt s i : Int) == 240) = false := by rw [beq_eq_false_iff_ne]; omega
                      have f4 : ((byt s i : Int) == 244) = false := by rw [beq_eq_false_iff_ne]; omega
                      clear ho
                      go_wp2; go_ret; exact ⟨by rw [Ho.out]; rfl, q, rfl⟩
      · rw [h] at Hbad Hgood c1
        clear c0 h
        have f223 : ¬ ((byt s i : Int) ≤ 223) := by omega
        have f239 : ¬ ((byt s i : Int) ≤ 239) := by omega
        go_enter Tryz.func115, Tryz.ntmps115
        go_upto_region 12 with fail
        go_loopw [7] (fun u wr => ∃ k q : Nat, 1 ≤ k ∧ k ≤ 4 ∧ u = .int .i64 (k : Int) ∧ wr = w.drewN q ∧ Hid (∀ j, 1 ≤ j → j < k → 128 ≤ byt s (i + j) ∧ byt s (i + j) ≤ 191)) (fun u _ => 4 - (intOf u).toNat)
        case atStart => exact ⟨1, 0, by omega, by omega, rfl, rfl, hide (fun j h1 h2 => by omega)⟩
        case round =>
          obtain ⟨k, q, hk1, hk2, rfl, rfl, hall⟩ := hrel
          by_cases hk : k < 4
          · have Bk : ∀ h : i + k < s.size, (s[i + k]'h).toNat = byt s (i + k) := fun h => byt_at s (i + k) h
            have Hstep : Hid (128 ≤ byt s (i + k) → byt s (i + k) ≤ 191 → ∀ j, 1 ≤ j → j < k + 1 → 128 ≤ byt s (i + j) ∧ byt s (i + j) ≤ 191) := hide (fun a b j h1 h2 => by
              by_cases e : j = k
              · subst e; exact And.intro a b
              · exact hall.out j h1 (by omega))
            have Hbk := hide (Hbad.out k hk1 hk)
            have hbk := byt_lt s (i + k)
            clear hall Hbad Hodd Hgood B1
            by_cases d1 : byt s (i + k) < 128
            · go_wp2
              go_ret
              exact ⟨by rw [Hbk.out (.inl d1)]; rfl, q, rfl⟩
            · by_cases d2 : 191 < byt s (i + k)
              · go_wp2
                go_ret
                exact ⟨by rw [Hbk.out (.inr d2)]; rfl, q, rfl⟩
              · go_wp2
                go_roundw
                case rel => exact ⟨k + 1, q, by omega, by omega, by go_num, rfl, hide (Hstep.out (by omega) (by omega))⟩
                case measure => simp [intOf]; omega
          · have hk3 : k = 4 := by omega
            subst hk3
            have Hg := hide (Hgood.out (by decide) (by omega) hall.out)
            have hb1 := byt_lt s (i + 1)
            clear hall Hbad Hgood
            go_upto_region 17 with fail
            by_cases ho : odd (byt s i) (byt s (i + 1))
            · have Ho := hide (Hodd.out ho)
              clear Hodd Hg
              unfold odd at ho
              rcases ho with ⟨e, o⟩ | ⟨e, o⟩ | ⟨e, o⟩ | ⟨e, o⟩
              all_goals first | (exfalso; omega) | (go_wp2; go_ret; exact ⟨by rw [Ho.out]; rfl, q, rfl⟩)
            · have Ho := hide (Hg.out ho)
              clear Hodd Hg
              unfold odd at ho
              by_cases e1 : byt s i = 224
              · first | (exfalso; omega) | (have o : ¬ byt s (i + 1) < 160 := by omega
                                            clear ho; go_wp2; go_ret; exact ⟨by rw [Ho.out]; rfl, q, rfl⟩)
              · by_cases e2 : byt s i = 237
                · first | (exfalso; omega) | (have o : ¬ 159 < byt s (i + 1) := by omega
                                              clear ho; go_wp2; go_ret; exact ⟨by rw [Ho.out]; rfl, q, rfl⟩)
                · by_cases e3 : byt s i = 240
                  · first | (exfalso; omega) | (have o : ¬ byt s (i + 1) < 144 := by omega
                                                clear ho; go_wp2; go_ret; exact ⟨by rw [Ho.out]; rfl, q, rfl⟩)
                  · by_cases e4 : byt s i = 244
                    · first | (exfalso; omega) | (have o : ¬ 143 < byt s (i + 1) := by omega
                                                  clear ho; go_wp2; go_ret; exact ⟨by rw [Ho.out]; rfl, q, rfl⟩)
                    · have f1 : ((byt s i : Int) == 224) = false := by rw [beq_eq_false_iff_ne]; omega
                      have f2 : ((byt s i : Int) == 237) = false := by rw [beq_eq_false_iff_ne]; omega
                      have f3 : ((byt s i : Int) == 240) = false := by rw [beq_eq_false_iff_ne]; omega
                      have f4 : ((byt s i : Int) == 244) = false := by rw [beq_eq_false_iff_ne]; omega
                      clear ho
                      go_wp2; go_ret; exact ⟨by rw [Ho.out]; rfl, q, rfl⟩
end Go.Proofs.YtllogmokadcfmaaGreat.Label
/-
  The contract of the document's own Rune: what stands at a place of any text is what a range over the text tells. Condition: the place is in the text, which has no more than 1,000,000,000 bytes.
-/
namespace Go.Proofs.YtllogmokadcfmaaGreat.Label
open Go.RowKit Go.Lib
set_option linter.unusedVariables false
set_option maxHeartbeats 4000000 in
set_option maxRecDepth 100000 in
theorem refRune_any (s : ByteArray) (i : Nat) (w : World) (hs : s.size ≤ 1000000000) (hi : i < s.size) :
   Calls Tryz.prog 103 #[.string s, .int .i64 (i : Int)] w fun e w' => e = .returned (.tuple #[.int .i64 (rn s i : Nat), .int .i64 (wd s i : Nat)]) ∧ ∃ k, w' = w.drewN k := by
  have B0 : ∀ h : i < s.size, (s[i]'h).toNat = byt s i := fun h => byt_at s i h
  have hb0 := byt_lt s i
  have HW := hide (refWide_any s i w hs hi)
  by_cases c0 : byt s i < 128
  · have HD := hide (dec_one s i c0)
    clear HW
    go_enter Tryz.func103, Tryz.ntmps103
    go_wp2
    go_ret2
    exact ⟨by rw [HD.out.1, HD.out.2]; rfl, 0, rfl⟩
  · obtain ⟨n, hn⟩ : ∃ n, wideAt s i = n := ⟨_, rfl⟩
    rw [hn] at HW
    by_cases h0 : n = 0
    · have HD := hide (dec_wide s i hi (by omega) (hn.trans h0))
      clear hn
      subst h0
      go_enter Tryz.func103, Tryz.ntmps103
      go_wp2_with (first
        | (go_at_call 115
           refine HW.out.mono ?_
           rintro e w1 ⟨rfl, q, rfl⟩))
      go_ret2
      exact ⟨by rw [HD.out.1, HD.out.2]; rfl, _, rfl⟩
    · have hd := dec_good s i n hi (by omega) hn h0
      have hfit := wd_le s i hi
      rw [hd.2.1] at hfit
      have HD := hide (And.intro hd.1 hd.2.1)
      have h2 := hd.2.2.1
      have h4 := hd.2.2.2
      clear hd hn
      have hcase : n = 2 ∨ n = 3 ∨ n = 4 := by omega
      clear h0 h2 h4
      rcases hcase with rfl | rfl | rfl
      · have h0A : Hid (base (byt s i) 2 = byt s i % 32) := hide rfl
        have hbase := base_lt (byt s i) 2
        have Hacc := hide (acc_lt s i (base (byt s i) 2) hbase)
        have Hstep : Hid (∀ j, acc s i (base (byt s i) 2) (j + 1) = acc s i (base (byt s i) 2) j * 64 + byt s (i + (j + 1)) % 64) := hide (fun _ => rfl)
        have Hz : Hid (acc s i (base (byt s i) 2) 0 = byt s i % 32) := h0A
        clear h0A hbase
        generalize acc s i (base (byt s i) 2) = A at *
        go_enter Tryz.func103, Tryz.ntmps103
        go_upto_region 12 with (first
          | (go_at_call 115
             refine HW.out.mono ?_
             rintro e w1 ⟨rfl, q, rfl⟩))
        go_loopw [7, 8] (fun x u wr => ∃ j q : Nat, j ≤ 1 ∧ u = .int .i64 ((j + 1 : Nat) : Int) ∧ x = .int .i64 (A j : Nat) ∧ wr = w.drewN q) (fun _ u _ => 2 - (intOf u).toNat)
        case atStart => exact ⟨0, _, by omega, rfl, by rw [Hz.out]; exact ret_i (by omega), rfl⟩
        case round =>
          obtain ⟨j, q, hj, rfl, rfl, rfl⟩ := hrel
          clear HW
          have hA := Hacc.out j (by omega)
          by_cases hk : j < 1
          · have Bk : ∀ h : i + (j + 1) < s.size, (s[i + (j + 1)]'h).toNat = byt s (i + (j + 1)) := fun h => byt_at s (i + (j + 1)) h
            have Hs := hide (Hstep.out j)
            have hbk := byt_lt s (i + (j + 1))
            have hfit2 : i + (j + 1) < s.size := by omega
            clear Hstep Hacc HD Hz
            go_wp2
            go_roundw
            case rel => exact ⟨j + 1, q, by omega, by go_num, by rw [Hs.out]; exact ret_i (by omega), rfl⟩
            case measure => simp [intOf]; omega
          · have hj3 : j = 1 := by omega
            subst hj3
            clear Hstep Hacc Hz
            go_wp2
            go_ret2
            exact ⟨by rw [HD.out.1, HD.out.2]; rfl, _, rfl⟩
      · have h0A : Hid (base (byt s i) 3 = byt s i % 16) := hide rfl
        have hbase := base_lt (byt s i) 3
        have Hacc := hide (acc_lt s i (base (byt s i) 3) hbase)
        have Hstep : Hid (∀ j, acc s i (base (byt s i) 3) (j + 1) = acc s i (base (byt s i) 3) j * 64 + byt s (i + (j + 1)) % 64) := hide (fun _ => rfl)
        have Hz : Hid (acc s i (base (byt s i) 3) 0 = byt s i % 16) := h0A
        clear h0A hbase
        generalize acc s i (base (byt s i) 3) = A at *
        go_enter Tryz.func103, Tryz.ntmps103
        go_upto_region 12 with (first
          | (go_at_call 115
             refine HW.out.mono ?_
             rintro e w1 ⟨rfl, q, rfl⟩))
        go_loopw [7, 8] (fun x u wr => ∃ j q : Nat, j ≤ 2 ∧ u = .int .i64 ((j + 1 : Nat) : Int) ∧ x = .int .i64 (A j : Nat) ∧ wr = w.drewN q) (fun _ u _ => 3 - (intOf u).toNat)
        case atStart => exact ⟨0, _, by omega, rfl, by rw [Hz.out]; exact ret_i (by omega), rfl⟩
        case round =>
          obtain ⟨j, q, hj, rfl, rfl, rfl⟩ := hrel
          clear HW
          have hA := Hacc.out j (by omega)
          by_cases hk : j < 2
          · have Bk : ∀ h : i + (j + 1) < s.size, (s[i + (j + 1)]'h).toNat = byt s (i + (j + 1)) := fun h => byt_at s (i + (j + 1)) h
            have Hs := hide (Hstep.out j)
            have hbk := byt_lt s (i + (j + 1))
            have hfit2 : i + (j + 1) < s.size := by omega
            clear Hstep Hacc HD Hz
            go_wp2
            go_roundw
            case rel => exact ⟨j + 1, q, by omega, by go_num, by rw [Hs.out]; exact ret_i (by omega), rfl⟩
            case measure => simp [intOf]; omega
          · have hj3 : j = 2 := by omega
            subst hj3
            clear Hstep Hacc Hz
            go_wp2
            go_ret2
            exact ⟨by rw [HD.out.1, HD.out.2]; rfl, _, rfl⟩
      · have h0A : Hid (base (byt s i) 4 = byt s i % 8) := hide rfl
        have hbase := base_lt (byt s i) 4
        have Hacc := hide (acc_lt s i (base (byt s i) 4) hbase)
        have Hstep : Hid (∀ j, acc s i (base (byt s i) 4) (j + 1) = acc s i (base (byt s i) 4) j * 64 + byt s (i + (j + 1)) % 64) := hide (fun _ => rfl)
        have Hz : Hid (acc s i (base (byt s i) 4) 0 = byt s i % 8) := h0A
        clear h0A hbase
        generalize acc s i (base (byt s i) 4) = A at *
        go_enter Tryz.func103, Tryz.ntmps103
        go_upto_region 12 with (first
          | (go_at_call 115
             refine HW.out.mono ?_
             rintro e w1 ⟨rfl, q, rfl⟩))
        go_loopw [7, 8] (fun x u wr => ∃ j q : Nat, j ≤ 3 ∧ u = .int .i64 ((j + 1 : Nat) : Int) ∧ x = .int .i64 (A j : Nat) ∧ wr = w.drewN q) (fun _ u _ => 4 - (intOf u).toNat)
        case atStart => exact ⟨0, _, by omega, rfl, by rw [Hz.out]; exact ret_i (by omega), rfl⟩
        case round =>
          obtain ⟨j, q, hj, rfl, rfl, rfl⟩ := hrel
          clear HW
          have hA := Hacc.out j (by omega)
          by_cases hk : j < 3
          · have Bk : ∀ h : i + (j + 1) < s.size, (s[i + (j + 1)]'h).toNat = byt s (i + (j + 1)) := fun h => byt_at s (i + (j + 1)) h
            have Hs := hide (Hstep.out j)
            have hbk := byt_lt s (i + (j + 1))
            have hfit2 : i + (j + 1) < s.size := by omega
            clear Hstep Hacc HD Hz
            go_wp2
            go_roundw
            case rel => exact ⟨j + 1, q, by omega, by go_num, by rw [Hs.out]; exact ret_i (by omega), rfl⟩
            case measure => simp [intOf]; omega
          · have hj3 : j = 3 := by omega
            subst hj3
            clear Hstep Hacc Hz
            go_wp2
            go_ret2
            exact ⟨by rw [HD.out.1, HD.out.2]; rfl, _, rfl⟩
end Go.Proofs.YtllogmokadcfmaaGreat.Label
/-
  The contract of the document's own Runes: it answers a new slice of the runes that a range over the text tells. Condition: the text has no more than 1,000,000,000 bytes.
-/
namespace Go.Proofs.YtllogmokadcfmaaGreat.Label
open Go.RowKit Go.Lib
set_option linter.unusedVariables false
theorem info_int : (Tryz.prog.info? 3).map (fun i => (i.zero, i.size, i.bytes)) = some (some (.int .i64 0), 1, 8) := by kernel_rfl
def ncs (l : List Nat) : List Value := l.map fun (n : Nat) => Value.int .i64 (n : Int)
theorem ncs_append (l m : List Nat) : ncs (l ++ m) = ncs l ++ ncs m := by simp [ncs]
theorem ncs_at {w : World} {B n k : Nat} {A : Option Addr} {l : List Nat} (h : Reads w B 1 A n (ncs l)) (hk : k < n) : ∃ ad z, A = some ad ∧ ad.block < B ∧ l[k]? = some z ∧ w.cell? (ad.add k) = some (.int .i64 (z : Int)) := by
  obtain ⟨ad, u, hA, hb, hu, hc⟩ := h.at_ hk
  simp only [ncs, List.getElem?_map] at hu
  cases hl : l[k]? with
  | none => rw [hl] at hu; simp at hu
  | some z =>
    rw [hl] at hu
    simp at hu
    exact ⟨ad, z, hA, hb, rfl, by rw [hc, hu]⟩
theorem own_drewN {w : World} {base : Nat} {e : TypeId} {size n : Nat} {v : Value} {xs : List Value} (h : w.ownsRow base e size v n xs) (k : Nat) : (w.drewN k).ownsRow base e size v n xs := h
def NumL (w : World) (v : Value) (l : List Nat) : Prop := ∃ A c, v = .slice A l.length c ∧ Reads w w.heap.size 1 A l.length (ncs l)
set_option maxHeartbeats 4000000 in
set_option maxRecDepth 100000 in
theorem refRunes_any (s : ByteArray) (w : World) (hs : s.size ≤ 1000000000) :
   Calls Tryz.prog 80 #[.string s] w fun e w' => ∃ v, e = .returned v ∧ NumL w' v (runes s 0) ∧ Below w.heap.size w w' ∧ w'.ownsRow w.heap.size 3 1 v (runes s 0).length (ncs (runes s 0)) := by
  obtain ⟨i0, hi0, hz0, hz1, hz2⟩ := info_parts info_int
  have u0 : (0 : Nat) < 1 := by decide
  have HR := hide (fun (i : Nat) (wx : World) => refRune_any s i wx hs)
  have Hlen := hide (runes_len s 0 (by omega))
  obtain ⟨B, hB⟩ : ∃ B, B = w.heap.size := ⟨_, rfl⟩
  go_enter Tryz.func80, Tryz.ntmps80
  go_wp2
  go_loopw [3, 4] (fun v u wr => ∃ (pos : Nat) (pre : List Nat), pos ≤ s.size ∧ u = .int .i64 (pos : Int) ∧ wr.ownsRow B 3 1 v pre.length (ncs pre) ∧ Hid (pre ++ runes s pos = runes s 0) ∧ pre.length ≤ pos ∧ Below B w wr) (fun _ u _ => s.size - (intOf u).toNat)
  case atStart => exact ⟨0, [], by omega, rfl, World.ownsRow_nil _ _ _ _, hide rfl, by simp, Below.refl _ _⟩
  case round =>
    obtain ⟨pos, pre, hp, rfl, hown, hpre, hpl, hb⟩ := hrel
    have hbs := hb.size
    by_cases hlt : pos < s.size
    · have HRi := hide (HR.out pos wr hlt)
      have hwd := wd_pos s pos hlt
      have hwl := wd_le s pos hlt
      have Hnext : Hid (pre ++ [rn s pos] ++ runes s (pos + wd s pos) = runes s 0) := hide (by rw [← hpre.out, runes_step s pos hlt]; simp)
      clear HR hpre
      generalize hW : wd s pos = W at *
      generalize hX : rn s pos = X at *
      clear hW hX
      go_wp2_with (first
        | (go_at_call 103
           refine HRi.out.mono ?_
           rintro e w1 ⟨rfl, q, rfl⟩)
        | (at_builtin
           refine wpList_append_any _ rfl (.tmp 17) (.tmp 19) _ rfl B 3 i0 _ 1 8 Tryz.underlying58 hi0 hz0 hz1 hz2 rfl (by omega) _ _ _ rfl
             (World.ownsRow.alloc (own_drewN hown _) _) _ _ 1 _ _ rfl (Reads.new1 _ _ _) (one_cell _ _) (by simp only [maxLen]; omega) (by omega) (by simp; omega) ?_
           intro v1 w1 hown2 hg1 hat1
           have hb2 : Below B w w1 := ((below_drewN hb _).alloc (by simp; omega) _).grown hg1 (by simp; omega) (fun k hk => (hown.lt k hk).1)))
      go_roundw
      case rel => exact ⟨pos + W, pre ++ [X], by omega, by go_num, by rw [List.length_append, ncs_append]; exact hown2, Hnext, by rw [List.length_append]; simp; omega, hb2⟩
      case measure => simp [intOf]; omega
    · have hp2 : pos = s.size := by omega
      subst hp2
      clear HR
      go_wp2
      go_ret
      have e := hpre.out
      rw [runes_end s s.size (by omega), List.append_nil] at e
      subst e
      obtain ⟨A, c, hv, _, _, hr⟩ := own_form hown
      rw [← hB]
      exact ⟨_, rfl, ⟨A, c, hv, hr⟩, hb, hown⟩
end Go.Proofs.YtllogmokadcfmaaGreat.Label
/-
  The contract of the document's own Kind: of which kind a rune is. Condition: a rune of at most 1,114,111.
-/
namespace Go.Proofs.YtllogmokadcfmaaGreat.Label
open Go.RowKit Go.Lib
set_option linter.unusedVariables false
set_option maxHeartbeats 800000 in
set_option maxRecDepth 100000 in
theorem refKind_any (x : Nat) (w : World) (hx : x ≤ 1114111) :
   Calls Tryz.prog 81 #[.int .i64 (x : Int)] w fun e w' => e = .returned (.int .i64 (kindN x : Nat)) ∧ w = w' := by
  by_cases h45 : x = 45
  · subst h45
    go_enter Tryz.func81, Tryz.ntmps81
    go_wp2
    go_ret
    exact ⟨rfl, rfl⟩
  · have h45i : ((x : Int) == 45) = false := by rw [beq_eq_false_iff_ne]; omega
    unfold kindN
    go_enter Tryz.func81, Tryz.ntmps81
    go_wp2
    all_goals (go_ret; refine ⟨ret_int ?_, rfl⟩; repeat' split)
    all_goals first | rfl | omega
end Go.Proofs.YtllogmokadcfmaaGreat.Label
