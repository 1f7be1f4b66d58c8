/-
  Some texts of this claim, one behind the other: RuleShowAll. What each proves, and its condition, stands at its head.
-/
import Derived.Test.YtpicnbidbddggaaGreatY19
import Derived.Test.YtpicnbidbddggaaGreatY18
import Derived.Shelf.Strings.OnBuilder
/-
  The library's own Join, laid at this program; and the contracts of the program's and the document's Show. Condition: at most 1,000 spans; the tables hold what the texts lay in them.
-/
namespace Go.Proofs.YtpicnbidbddggaaGreat.Rule
open Go.RowKit Go.Lib Go.Shelf Go.Proofs.YtpicnbidbddggaaGreat.Span
open Go.Proofs.YtpicnbidbddggaaGreat.Ver (Tabs)
set_option linter.unusedVariables false
def sepL : List UInt8 := [32, 124, 32]
theorem join_eq : ∀ l : List S, joinL l = join (l.map partL) sepL
  | [] => rfl
  | [s] => by rw [List.map_cons, List.map_nil, join_one]; rfl
  | s :: t :: r => by
    have ih := join_eq (t :: r)
    have e : joinL (s :: t :: r) = partL s ++ 32 :: 124 :: 32 :: joinL (t :: r) := rfl
    rw [e, ih, List.map_cons, List.map_cons, join_cons, join_cons]
    simp [joinTail, sepL]
theorem join_more {l : List S} {i : Nat} {s : S} (h : l[i]? = some s) (hi : 1 ≤ i) : joinL (l.take (i + 1)) = joinL (l.take i) ++ 32 :: 124 :: 32 :: partL s := by
  rw [join_eq, join_eq]
  cases l with
  | nil => simp at h
  | cons x t =>
    obtain ⟨k, rfl⟩ : ∃ k, i = k + 1 := ⟨i - 1, by omega⟩
    rw [List.take_succ_cons, List.take_succ_cons, List.map_cons, List.map_cons, join_cons, join_cons, List.map_take, List.map_take, joinTail_take_succ sepL (t.map partL) k (partL s) (by rw [List.getElem?_map]; simp at h; rw [h]; rfl)]
    simp [sepL]
theorem info_str : (Tryz.prog.info? 9).map (fun i => (i.zero, i.size, i.bytes)) = some (some (.string ByteArray.empty), 1, 16) := by kernel_rfl
set_option maxHeartbeats 2000000 in
set_option maxRecDepth 100000 in
theorem refShow_any (l : List S) (A : Option Addr) (n c : Nat) (w : World) (h : SpOn w A n l) (hn : n ≤ 1000) :
    Calls Tryz.prog 86 #[.slice A n c] w (Tells w (.string (str (showL l)))) := by
  unfold Tells
  have hlen : l.length = n := h.1
  have HC := hide (refCheck_on (c := c) h (by omega))
  by_cases h1 : isSet (-1) l = false
  · have e : showL l = [] := by unfold showL; rw [if_pos h1]
    rw [e]
    rw [h1] at HC
    clear h1 e
    go_enter Tryz.func86, Tryz.ntmps86
    go_wp2_with (go_at_call 23
                 refine HC.out.mono ?_
                 rintro e w1 ⟨rfl, hb1⟩)
    go_ret
    exact ⟨rfl, hb1⟩
  · have h1' : isSet (-1) l = true := by simpa using h1
    rw [h1'] at HC
    by_cases h2 : l = []
    · have e : showL l = noneL := by unfold showL; rw [if_neg h1, if_pos h2]
      rw [e]
      have hn0 : n = 0 := by rw [← hlen, h2]; rfl
      subst hn0
      clear h1 e h2 hlen
      go_enter Tryz.func86, Tryz.ntmps86
      go_wp2_with (go_at_call 23
                   refine HC.out.mono ?_
                   rintro e w1 ⟨rfl, hb1⟩)
      go_ret
      exact ⟨rfl, hb1⟩
    · have hn0 : ((n : Int) == 0) = false := beq_eq_false_iff_ne.2 fun e => h2 (List.eq_nil_of_length_eq_zero (by omega))
      have hn1 : 1 ≤ n := by
        rcases Nat.eq_zero_or_pos n with e | e
        · exact absurd (List.eq_nil_of_length_eq_zero (by omega)) h2
        · exact e
      have HS := hide (fun (wx : World) (A' : Option Addr) (n' c' : Nat) (hx : SpOn wx A n l) (hy : SpOn wx A' n' [((0 : Int), (1000000000 : Int))]) => refSame_on (c := c) (c' := c') hx hy (by omega) (by have := hy.len; simp at this; omega))
      by_cases h3 : l = [(0, 1000000000)]
      · have e : showL l = anyL := by unfold showL; rw [if_neg h1, if_neg h2, if_pos h3]
        rw [e]
        rw [decide_eq_true h3] at HS
        clear h1 e h2 hlen h3
        go_enter Tryz.func86, Tryz.ntmps86
        go_wp2_with (first
          | (go_at_call 23
             refine HC.out.mono ?_
             rintro e w1 ⟨rfl, hb1⟩
             have hx1 := h.on hb1)
          | (go_at_call 97
             refine (refAll_any w1).mono ?_
             rintro e w2 ⟨A2, n2, c2, rfl, hy, hb2⟩
             have hx2 := hx1.on hb2
             have hb12 := hb1.trans (hb2.mono hb1.size))
          | (go_at_call 76
             refine (HS.out _ _ _ _ hx2 hy).mono ?_
             rintro e w3 ⟨rfl, hb3⟩))
        go_ret
        exact ⟨rfl, hb12.trans (hb3.mono hb12.size)⟩
      · have e : showL l = joinL l := by unfold showL; rw [if_neg h1, if_neg h2, if_neg h3]
        rw [e]
        rw [decide_eq_false h3] at HS
        have hr := hide (fun s (hs : s ∈ l) => mem_range h1' s hs)
        clear h1 e h2 h3 h1'
        have hj0 := join_len l
        go_enter Tryz.func86, Tryz.ntmps86
        go_upto_region 7 with (first
          | (go_at_call 23
             refine HC.out.mono ?_
             rintro e w1 ⟨rfl, hb1⟩
             have hx1 := h.on hb1)
          | (go_at_call 97
             refine (refAll_any w1).mono ?_
             rintro e w2 ⟨A2, n2, c2, rfl, hy, hb2⟩
             have hx2 := hx1.on hb2
             have hb12 := hb1.trans (hb2.mono hb1.size))
          | (go_at_call 76
             refine (HS.out _ _ _ _ hx2 hy).mono ?_
             rintro e w3 ⟨rfl, hb3⟩
             have hx3 := hx2.on hb3
             have hb13 := hb12.trans (hb3.mono hb12.size)))
        obtain ⟨ad, s, rfl, hbl, hs, p1, p2⟩ := SpIn.at_ hx3 (show 0 < n by omega)
        rw [Nat.zero_mul, add_zero'] at p1 p2
        obtain ⟨r1, r2, r3, _⟩ := hr.out s (List.mem_of_getElem? hs)
        have Hsh := hide (part_any s.1 s.2 w3 (by omega) r2 r3)
        have h0 : joinL (l.take 1) = partL s := by
          cases l with
          | nil => simp at hs
          | cons x t => simp at hs; subst hs; rfl
        have H0 : Hid (str (partL (s.1, s.2)) = str (joinL (l.take 1))) := hide (by rw [h0])
        clear h0 hs hx1 hx2 hb1 hb2 hb12 hb3 hy HS HC h r1 r2 r3 hbl
        obtain ⟨sx, sy⟩ := s
        simp only [] at p1 p2 Hsh H0
        go_wp2_with (go_at_call 109
                     refine Hsh.out.mono ?_
                     rintro e w4 ⟨rfl, hb4⟩
                     have hx4 := hx3.on hb4
                     have hb14 := hb13.trans (hb4.mono hb13.size))
        rw [H0.out]
        clear p1 p2 hb4 hb13 hx3 Hsh H0
        go_loopw [3, 4] (fun u x wr => ∃ (i : Nat), 1 ≤ i ∧ i ≤ n ∧ u = .string (str (joinL (l.take i))) ∧ x = .int .i64 (i : Int) ∧ SpOn wr (some ad) n l ∧ Below w.heap.size w wr) (fun _ x _ => n - (RowKit.intOf x).toNat)
        case atStart => exact ⟨1, by omega, by omega, rfl, rfl, hx4, hb14⟩
        case round =>
          obtain ⟨i, hi1, hi, rfl, rfl, hx, hb⟩ := hrel
          clear hx4 hb14
          by_cases hlt : i < n
          · obtain ⟨ad', s, hA, hbl, hs, p1, p2⟩ := SpIn.at_ hx hlt
            injection hA with hA
            subst hA
            obtain ⟨r1, r2, r3, _⟩ := hr.out s (List.mem_of_getElem? hs)
            have Hsh := hide (part_any s.1 s.2 wr (by omega) r2 r3)
            have hjm := join_more hs hi1
            have Hj : Hid (str (joinL (l.take i)) ++ (⟨#[32, 124, 32]⟩ : ByteArray) ++ str (partL (s.1, s.2)) = str (joinL (l.take (i + 1)))) := hide (by
              have a1 := str_append (joinL (l.take i)) [32, 124, 32]
              have a2 := str_append (joinL (l.take i) ++ [32, 124, 32]) (partL (s.1, s.2))
              have b1 : (⟨#[32, 124, 32]⟩ : ByteArray) = str [32, 124, 32] := rfl
              rw [b1, a1, a2, hjm]
              simp)
            have s1 : (str (joinL (l.take i))).size ≤ 30000 := by
              rw [str_size]
              have := join_len (l.take i)
              rw [List.length_take] at this
              omega
            have s2 : (str (partL (s.1, s.2))).size ≤ 26 := by rw [str_size]; exact part_len _
            clear hjm hs r1 r2 r3
            obtain ⟨sx, sy⟩ := s
            simp only [] at p1 p2 Hsh Hj s2
            generalize str (partL (sx, sy)) = P at *
            generalize str (joinL (l.take i)) = J at *
            go_wp2_with (go_at_call 109
                         refine Hsh.out.mono ?_
                         rintro e w5 ⟨rfl, hb5⟩)
            go_roundw
            case rel => exact ⟨i + 1, by omega, by omega, by rw [← Hj.out], by go_num, hx.on hb5, hb.trans (hb5.mono hb.size)⟩
            case measure => simp [RowKit.intOf]; omega
          · have hin : i = n := by omega
            subst hin
            have e : l.take i = l := List.take_of_length_le (by omega)
            rw [e]
            clear e
            go_wp2
            go_ret
            exact ⟨rfl, hb⟩
end Go.Proofs.YtpicnbidbddggaaGreat.Rule
