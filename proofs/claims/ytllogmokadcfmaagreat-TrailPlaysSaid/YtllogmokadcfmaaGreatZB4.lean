/-
  Some texts of this claim, one behind the other: SpanSift, SpanLen. What each proves, and its condition, stands at its head.
-/
import Derived.Test.YtllogmokadcfmaaGreatZB3
import Derived.Shelf.Abstract
/-
  The contract of the program's sift, over any closure that tells of two booleans and writes nothing: the set of the places that are kept; and of Union, Meet, Not, Within over it. Condition: the slices read as sets.
-/
namespace Go.Proofs.YtllogmokadcfmaaGreat.Span
open Go.RowKit Go.Lib
set_option linter.unusedVariables false
def kept (K : Bool → Bool → Bool) (a b : List S) (p : Int) : Bool := K (has a p) (has b p)
theorem sift_step {K : Bool → Bool → Bool} {a b : List S} (ha : isSet (-1) a = true) (hb : isSet (-1) b = true) (lo : Int) (i j : Nat) (h0 : 0 ≤ lo) (h1 : lo < 1000000000)
    (hi : Past a lo i) (hj : Past b lo j) (hi2 : lo < edge a i) (hj2 : lo < edge b j) (hh : Int) (hm : hh = min (edge a i) (edge b j)) :
    lo < hh ∧ hh ≤ 1000000000 ∧ Past a hh i ∧ Past b hh j ∧
      (K (decide (i % 2 = 1)) (decide (j % 2 = 1)) = true → nfTo (kept K a b) hh = put (nfTo (kept K a b) lo) (lo, hh)) ∧
      (K (decide (i % 2 = 1)) (decide (j % 2 = 1)) = false → nfTo (kept K a b) hh = nfTo (kept K a b) lo) := by
  have h2 := edge_range a (-1) i ha hi.1
  have hlt : lo < hh := by omega
  have key : ∀ p, lo ≤ p → p < hh → kept K a b p = K (decide (i % 2 = 1)) (decide (j % 2 = 1)) := fun p p0 p1 => by
    unfold kept
    rw [hi.has_ ha p0 (by omega), hj.has_ hb p0 (by omega)]
  exact ⟨hlt, by omega, hi.more (by omega), hj.more (by omega), fun hk => nfTo_take (fun p p0 p1 => by rw [key p p0 p1, hk]) h0 hlt (by omega),
    fun hk => nfTo_skip (fun p p0 p1 => by rw [key p p0 p1, hk]) (by omega)⟩
theorem mod_two (i : Nat) : ((i : Int) % 2 == 1) = decide (i % 2 = 1) := by
  rw [Bool.eq_iff_iff]; simp; omega
set_option maxHeartbeats 400000 in
set_option maxRecDepth 100000 in
theorem sift_any {Ba na ca Bb nb cb : Nat} {Aa Ab : Option Addr} {a b : List S} (K : Bool → Bool → Bool) (f : FuncId) (w : World)
    (eg : ∀ args w, (callFunc f args).run Tryz.prog w = .ok (.enter f args) w) (hK : ∀ x y w, Calls Tryz.prog f #[.bool x, .bool y] w fun e w' => e = .returned (.bool (K x y)) ∧ w = w')
    (hra : SpIn w Ba Aa na a) (hrb : SpIn w Bb Ab nb b) (hBa : Ba ≤ w.heap.size) (hBb : Bb ≤ w.heap.size) (ha : isSet (-1) a = true) (hb : isSet (-1) b = true) :
    Calls Tryz.prog 88 #[.slice Aa na ca, .slice Ab nb cb, .func (.func f) #[] #[]] w fun e w' =>
      ∃ A n c, e = .returned (.slice A n c) ∧ NewS w' w.heap.size A n c (nf (kept K a b)) ∧ Below w.heap.size w w' := by
  have hna : na ≤ 1000000001 := by rw [← hra.1]; exact len_le ha
  have hnb : nb ≤ 1000000001 := by rw [← hrb.1]; exact len_le hb
  have Hset := hide (fun lo => len_le (nf_set fun p => decide (p < lo) && kept K a b p))
  have Hst := hide (@sift_step K a b ha hb)
  have Hz := hide (nfTo_zero (kept K a b))
  have Ht := hide (fun n hn => @nfTo_top (kept K a b) n hn)
  have Ha := hide (fun k p wx (h : Below w.heap.size w wx) => @passed_any _ _ ca _ a k p wx (hra.below (h.mono hBa)) hna)
  have Hb := hide (fun k p wx (h : Below w.heap.size w wx) => @passed_any _ _ cb _ b k p wx (hrb.below (h.mono hBb)) hnb)
  have Ea := hide (fun k wx (h : Below w.heap.size w wx) => @edge_any _ _ ca _ a k wx (hra.below (h.mono hBa)) hna)
  have Eb := hide (fun k wx (h : Below w.heap.size w wx) => @edge_any _ _ cb _ b k wx (hrb.below (h.mono hBb)) hnb)
  have La := hra.1
  have Lb := hrb.1
  have HK := hide hK
  clear hra hrb ha hb hK
  generalize hT : nfTo (kept K a b) = T at *
  generalize hN : nf (kept K a b) = N at *
  have HN := hide hN
  clear hN
  go_enter Tryz.func88, Tryz.ntmps88
  go_wp2
  go_loopw [7, 8, 9, 10] (fun v u8 u9 u10 wr => ∃ (lo : Int) (i j : Nat) (A : Option Addr) (n c : Nat), v = .slice A n c ∧ u8 = .int .i64 (i : Int) ∧ u9 = .int .i64 (j : Int) ∧ u10 = .int .i64 lo ∧ 0 ≤ lo ∧ lo ≤ 1000000000 ∧ Past a lo i ∧ Past b lo j ∧
    NewS wr w.heap.size A n c (T lo) ∧ Below w.heap.size w wr) (fun _ _ _ u _ => (1000000000 - intOf u).toNat)
  case atStart => exact ⟨0, 0, 0, none, 0, 0, rfl, rfl, rfl, rfl, by omega, by omega, ⟨by omega, fun m hm => by omega⟩, ⟨by omega, fun m hm => by omega⟩, by rw [Hz.out]; exact NewS.nil_ _ _, Below.refl _ _⟩
  case round =>
    obtain ⟨lo, i, j, A, n, c, rfl, rfl, rfl, rfl, h0, h1, hi, hj, hL, hbw⟩ := hrel
    by_cases hlt : lo < 1000000000
    · go_upto_region 6 with (first
        | (go_at_call 106
           have hdone := hi1
           refine (Hb.out j lo _ hbw hlt hj).mono ?_
           rintro e w1 ⟨⟨j1, rfl, hj1, hj2⟩, rfl⟩)
        | (go_at_call 106
           refine (Ha.out i lo _ hbw hlt hi).mono ?_
           rintro e w1 ⟨⟨i1, rfl, hi1, hi2⟩, rfl⟩))
      obtain ⟨qa, hqa⟩ : ∃ q, q = edge a i1 := ⟨_, rfl⟩
      obtain ⟨qb, hqb⟩ : ∃ q, q = edge b j1 := ⟨_, rfl⟩
      have Ea1 := hide (Ea.out i1 wr hbw (by rw [← La]; exact hi1.1))
      have Eb1 := hide (Eb.out j1 wr hbw (by rw [← Lb]; exact hj1.1))
      have Hs := hide (fun hh (hm : hh = min qa qb) => Hst.out lo i1 j1 h0 hlt hi1 hj1 hi2 hj2 hh (by rw [hm, hqa, hqb]))
      rw [← hqa] at Ea1
      rw [← hqb] at Eb1
      clear hqa hqb Ea Eb Ha Hb Hst hi hj hdone hi2 hj2
      go_cut [11] (fun u wx => ∃ hh : Int, u = .int .i64 hh ∧ hh = min qa qb ∧ wr = wx)
      case first =>
        go_wp2_with (first
          | (go_at_call 107
             have hdone := hone
             refine Eb1.out.mono ?_
             rintro e w1 ⟨rfl, rfl⟩)
          | (go_at_call 107
             refine Ea1.out.mono ?_
             rintro e w1 ⟨rfl, rfl⟩
             have hone := True.intro))
        all_goals (go_meet; exact ⟨_, rfl, by omega, rfl⟩)
      case rest =>
        obtain ⟨hh, rfl, hhe, rfl⟩ := hcut
        obtain ⟨g1, g2, g3, g4, g5, g6⟩ := Hs.out hh hhe
        have G5 := hide g5
        have G6 := hide g6
        clear g5 g6 Hs hhe
        have m1 := mod_two i1
        have m2 := mod_two j1
        generalize decide (i1 % 2 = 1) = x at *
        generalize decide (j1 % 2 = 1) = y at *
        have hTl : (T lo).length ≤ 1000000001 := by rw [← hT]; exact Hset.out lo
        have hn : n ≤ 1000000001 := by rw [hL.1]; exact hTl
        have Hp := hide (@put_any _ n c A (T lo) lo hh wr hL hbw.size hn)
        clear hTl hn hT Hset Ht Hz HN
        cases hk : K x y with
        | false =>
          have e := G6.out hk
          rw [← e] at hL
          have Hk := hide (fun wx => HK.out x y wx)
          rw [hk] at Hk
          clear G5 G6 HK hk e
          go_wp2_with (go_at_fn f; refine (Hk.out _).mono ?_; rintro e w1 ⟨rfl, rfl⟩)
          go_roundw
          case rel => exact ⟨hh, i1, j1, A, n, c, rfl, rfl, rfl, rfl, by omega, g2, g3, g4, hL, hbw⟩
          case measure => simp [intOf]; omega
        | true =>
          have e := hide (G5.out hk)
          have Hk := hide (fun wx => HK.out x y wx)
          rw [hk] at Hk
          clear G5 G6 HK hk
          go_wp2_with (first
            | (go_at_fn f; refine (Hk.out _).mono ?_; rintro e w1 ⟨rfl, rfl⟩)
            | (go_at_call 86; refine Hp.out.mono ?_; rintro e w1 ⟨A', n', c', rfl, hL2, hb2⟩))
          go_roundw
          case rel => exact ⟨hh, i1, j1, A', n', c', rfl, rfl, rfl, rfl, by omega, g2, g3, g4, by rw [e.out]; exact hL2, hbw.trans hb2⟩
          case measure => simp [intOf]; omega
    · have hle : lo = 1000000000 := by omega
      have e := Ht.out lo (by omega)
      rw [e] at hL
      clear hT Hz Ht Hst Ha Hb Ea Eb HK
      go_wp2
      go_ret
      exact ⟨_, _, _, rfl, hL, hbw⟩
noncomputable def meetS (a b : List S) : List S := nf (kept (fun x y => x && y) a b)
noncomputable def lessS (a b : List S) : List S := nf (kept (fun x y => x && !y) a b)
theorem meet_any {Ba na ca Bb nb cb : Nat} {Aa Ab : Option Addr} {a b : List S} (w : World)
    (hra : SpIn w Ba Aa na a) (hrb : SpIn w Bb Ab nb b) (hBa : Ba ≤ w.heap.size) (hBb : Bb ≤ w.heap.size) (ha : isSet (-1) a = true) (hb : isSet (-1) b = true) :
    Calls Tryz.prog 71 #[.slice Aa na ca, .slice Ab nb cb] w fun e w' =>
      ∃ A n c, e = .returned (.slice A n c) ∧ NewS w' w.heap.size A n c (meetS a b) ∧ Below w.heap.size w w' := by
  have Hs := hide (@sift_any Ba na ca Bb nb cb Aa Ab a b (fun x y => x && y) 89 w
    (enters_of Tryz.func89 (by kernel_rfl) rfl) meet1_any hra hrb hBa hBb ha hb)
  unfold meetS
  generalize nf (kept (fun x y => x && y) a b) = N at *
  go_enter Tryz.func71, Tryz.ntmps71
  go_wp2_with (go_at_call 88; refine Hs.out.mono ?_; rintro e w1 ⟨A, n, c, rfl, hN, hb2⟩)
  go_ret
  exact ⟨_, _, _, rfl, hN, hb2⟩
theorem within_any {Ba na ca Bb nb cb : Nat} {Aa Ab : Option Addr} {a b : List S} (w : World)
    (hra : SpIn w Ba Aa na a) (hrb : SpIn w Bb Ab nb b) (hBa : Ba ≤ w.heap.size) (hBb : Bb ≤ w.heap.size) (ha : isSet (-1) a = true) (hb : isSet (-1) b = true) :
    Calls Tryz.prog 72 #[.slice Aa na ca, .slice Ab nb cb] w fun e w' => e = .returned (.bool (decide (lessS a b = []))) ∧ Below w.heap.size w w' := by
  have Hs := hide (@sift_any Ba na ca Bb nb cb Aa Ab a b (fun x y => x && !y) 90 w
    (enters_of Tryz.func90 (by kernel_rfl) rfl) within1_any hra hrb hBa hBb ha hb)
  unfold lessS
  generalize nf (kept (fun x y => x && !y) a b) = N at *
  go_enter Tryz.func72, Tryz.ntmps72
  go_wp2_with (go_at_call 88; refine Hs.out.mono ?_; rintro e w1 ⟨A, n, c, rfl, hN, hb2⟩)
  go_ret
  refine ⟨?_, hb2⟩
  have e : n = N.length := hN.1
  have e2 : ((n : Int) == 0) = decide (N = []) := by
    rw [Bool.eq_iff_iff, decide_eq_true_iff, beq_iff_eq, ← List.length_eq_zero_iff]; omega
  rw [← e2]; rfl
end Go.Proofs.YtllogmokadcfmaaGreat.Span
/-
  Plain mathematics of sets: what two sets have both, or one of both, has at most as many spans as both together. No program.
-/
namespace Go.Proofs.YtllogmokadcfmaaGreat.Span
open Go.RowKit Go.Lib
set_option linter.unusedVariables false
theorem sorted_len : ∀ (L M : List Int), L.Pairwise (fun x y => x < y) → (∀ x ∈ L, x ∈ M) → L.length ≤ M.length
  | [], _, _, _ => Nat.zero_le _
  | x :: t, M, h, hm => by
    obtain ⟨h1, h2⟩ := List.pairwise_cons.1 h
    have hx := hm x (by simp)
    have ih := sorted_len t (M.erase x) h2 (fun y hy => by
      have hlt := h1 y hy
      exact (List.mem_erase_of_ne (by omega)).2 (hm y (by simp [hy])))
    rw [List.length_erase_of_mem hx] at ih
    have := List.length_pos_of_mem hx
    simp only [List.length_cons]
    omega
theorem starts_rise {l : List S} : ∀ {e : Int}, isSet e l = true → (l.map Prod.fst).Pairwise (fun x y => x < y) := by
  induction l with
  | nil => intro e _; exact List.Pairwise.nil
  | cons s t ih =>
    intro e h
    obtain ⟨h1, h2, h3, h4⟩ := (isSet_cons e s t).1 h
    refine List.pairwise_cons.2 ⟨fun x hx => ?_, ih h4⟩
    obtain ⟨y, hy, rfl⟩ := List.mem_map.1 hx
    have := mem_range h4 y hy
    omega
theorem start_in {l : List S} : ∀ {e : Int}, isSet e l = true → ∀ s ∈ l, has l s.1 = true ∧ has l (s.1 - 1) = false := by
  induction l with
  | nil => intro e _ s hs; cases hs
  | cons x t ih =>
    intro e h s hs
    obtain ⟨h1, h2, h3, h4⟩ := (isSet_cons e x t).1 h
    rcases List.mem_cons.1 hs with rfl | hs
    · refine ⟨by rw [has_cons]; simp [h2], ?_⟩
      rw [has_cons, has_low h4 (by omega)]
      simp
      omega
    · obtain ⟨g1, g2⟩ := ih h4 s hs
      have := mem_range h4 s hs
      refine ⟨by rw [has_cons, g1]; simp, ?_⟩
      rw [has_cons, g2]
      simp
      omega
theorem start_edge {a : List S} {p : Int} (h1 : has a p = true) (h0 : has a (p - 1) = false) : p ∈ a.map Prod.fst := by
  obtain ⟨s, hs, g1, g2⟩ := (has_iff a p).1 h1
  have : ¬ (s.1 ≤ p - 1 ∧ p - 1 < s.2) := fun h => by
    have := (has_iff a (p - 1)).2 ⟨s, hs, h⟩
    rw [h0] at this; cases this
  exact List.mem_map.2 ⟨s, hs, by omega⟩
theorem nf_before {P : Int → Bool} {s : S} (hs : s ∈ nf P) : P s.1 = true ∧ (s.1 = 0 ∨ P (s.1 - 1) = false) := by
  obtain ⟨h1, h2⟩ := start_in (nf_set P) s hs
  have hr := mem_range (nf_set P) s hs
  rw [nf_in P (by omega) (by omega)] at h1
  refine ⟨h1, ?_⟩
  by_cases h0 : s.1 = 0
  · exact .inl h0
  · rw [nf_in P (by omega) (by omega)] at h2
    exact .inr h2
theorem none_below {a : List S} (ha : isSet (-1) a = true) : has a (-1) = false := has_low ha (by omega)
theorem meet_len {a b : List S} (ha : isSet (-1) a = true) (hb : isSet (-1) b = true) : (meetS a b).length ≤ a.length + b.length := by
  have h := sorted_len ((meetS a b).map Prod.fst) (a.map Prod.fst ++ b.map Prod.fst) (starts_rise (nf_set _)) (fun x hx => by
    obtain ⟨s, hs, rfl⟩ := List.mem_map.1 hx
    obtain ⟨h1, h2⟩ := nf_before hs
    have h1' : (has a s.1 && has b s.1) = true := h1
    simp only [Bool.and_eq_true] at h1'
    refine List.mem_append.2 ?_
    rcases h2 with h0 | h2
    · exact .inl (start_edge h1'.1 (by rw [h0]; exact none_below ha))
    · have h2' : (has a (s.1 - 1) && has b (s.1 - 1)) = false := h2
      cases g : has a (s.1 - 1) with
      | false => exact .inl (start_edge h1'.1 g)
      | true =>
        rw [g] at h2'
        exact .inr (start_edge h1'.2 h2'))
  simpa using h
end Go.Proofs.YtllogmokadcfmaaGreat.Span
