/-
  The walk of SpanDoes: any two sets. No condition.
-/
import Derived.Test.YtbkbamidkofajaaSpanOn
namespace Go.Proofs.Ytbkbamidkofajaa.Span
open Go Go.RowKit Go.Lib
set_option linter.unusedVariables false
theorem least_on {A : Option Addr} {n c : Nat} {l : List S} {w : World} (h : SpOn w A n l) (hn : n ≤ 1000000001) : Calls Try.prog 18 #[.slice A n c] w (Tells w (.tuple #[.int .i64 ((l[0]?.getD (0, 0)).1), .bool (decide (0 < n))])) := tells_same (least_any w h hn)
theorem most_on {A : Option Addr} {n c : Nat} {l : List S} {w : World} (h : SpOn w A n l) (hn : n ≤ 1000000001) (hr : ∀ s ∈ l, -1 < s.2 ∧ s.2 ≤ 1000000000) : Calls Try.prog 19 #[.slice A n c] w (Tells w (.tuple #[.int .i64 (if n = 0 then 0 else (l[n - 1]?.getD (0, 0)).2 - 1), .bool (decide (0 < n))])) := tells_same (most_any w h hn hr)
set_option maxHeartbeats 4000000 in
set_option maxRecDepth 100000 in
theorem does_walk (A0 : Option Addr) (n0 c0 : Nat) (a : List S) (A1 : Option Addr) (n1 c1 : Nat) (b : List S) (p : Int) (w : World) (hn0 : n0 ≤ 60) (hn1 : n1 ≤ 60)
    (h0 : SpOn w A0 n0 a) (h1 : SpOn w A1 n1 b) (hsa : isSet (-1) a = true) (hsb : isSet (-1) b = true) :
    Calls Try.prog 4 #[.slice A0 n0 c0, .slice A1 n1 c1, .int .i64 p] w fun e w' => e = .returned (.bool true) ∧ Below w.heap.size w w' := by
  have hbw : Below w.heap.size w w := Below.refl _ _
  have sa := hide hsa
  have sb := hide hsb
  have Hca := hide (fun wx (h : SpOn wx A0 n0 a) => refCheck_on (c := c0) h (by omega))
  have Hcb := hide (fun wx (h : SpOn wx A1 n1 b) => refCheck_on (c := c1) h (by omega))
  have Ha := hide (fun wx (h : SpOn wx A0 n0 a) => has_on (c := c0) p h (by omega))
  have Hra := hide (fun wx (h : SpOn wx A0 n0 a) => refHas_on (c := c0) p h (by omega) hsa)
  have Hw := hide (fun wx (h : SpOn wx A0 n0 a) (h' : SpOn wx A1 n1 b) => within_on (c := c0) (c' := c1) h h' hsa hsb)
  have Hrw := hide (fun wx (h : SpOn wx A0 n0 a) (h' : SpOn wx A1 n1 b) => refWithin_on (c := c0) (c' := c1) h h' (by omega) (by omega) hsa)
  have Hc := hide (fun wx (h : SpOn wx A0 n0 a) => count_on (c := c0) h hsa)
  have Hrc := hide (fun wx (h : SpOn wx A0 n0 a) => refCount_on (c := c0) h hsa)
  have hmr : ∀ s ∈ a, -1 < s.2 ∧ s.2 ≤ 1000000000 := fun s hs => by have := mem_range hsa s hs; omega
  have Hle := hide (fun wx (h : SpOn wx A0 n0 a) => least_on (c := c0) h (by omega))
  have Hmo := hide (fun wx (h : SpOn wx A0 n0 a) => most_on (c := c0) h (by omega) hmr)
  rw [hsa] at Hca
  rw [hsb] at Hcb
  have Hmr := hide hmr
  clear hsa hsb hmr
  generalize has a p = r at *
  generalize decide (lessS a b = []) = q at *
  generalize count a = k at *
  rcases Nat.eq_zero_or_pos n0 with hz | hz
  · subst hz
    have e : a = [] := List.eq_nil_of_length_eq_zero h0.1
    subst e
    simp only [if_true, List.getElem?_nil, Option.getD_none, Nat.lt_irrefl, decide_false] at Hle Hmo
    go_enter Try.func4, Try.ntmps4
    go_wp2_with (first
      | (go_at_call_of 9 (Value.slice A1 n1 c1)
         refine (Hcb.out _ h1).mono ?_
         rintro e wn ⟨rfl, hbx⟩
         try have h0 := SpOn.on h0 hbx
         try have h1 := SpOn.on h1 hbx
         try have h3 := SpOn.on h3 hbx
         try have h4 := SpOn.on h4 hbx
         try have h5 := SpOn.on h5 hbx
         try have h6 := SpOn.on h6 hbx
         try have h7 := SpOn.on h7 hbx
         try have h8 := SpOn.on h8 hbx
         have hbw := hbw.trans (hbx.mono hbw.size))
      | (go_at_call 9
         refine (Hca.out _ h0).mono ?_
         rintro e wn ⟨rfl, hbx⟩
         try have h0 := SpOn.on h0 hbx
         try have h1 := SpOn.on h1 hbx
         try have h3 := SpOn.on h3 hbx
         try have h4 := SpOn.on h4 hbx
         try have h5 := SpOn.on h5 hbx
         try have h6 := SpOn.on h6 hbx
         try have h7 := SpOn.on h7 hbx
         try have h8 := SpOn.on h8 hbx
         have hbw := hbw.trans (hbx.mono hbw.size))
      | (go_at_call 18
         refine (Hle.out _ h0).mono ?_
         rintro e wn ⟨rfl, hbx⟩
         try have h0 := SpOn.on h0 hbx
         try have h1 := SpOn.on h1 hbx
         try have h3 := SpOn.on h3 hbx
         try have h4 := SpOn.on h4 hbx
         try have h5 := SpOn.on h5 hbx
         try have h6 := SpOn.on h6 hbx
         try have h7 := SpOn.on h7 hbx
         try have h8 := SpOn.on h8 hbx
         have hbw := hbw.trans (hbx.mono hbw.size))
      | (go_at_call 19
         refine (Hmo.out _ h0).mono ?_
         rintro e wn ⟨rfl, hbx⟩
         try have h0 := SpOn.on h0 hbx
         try have h1 := SpOn.on h1 hbx
         try have h3 := SpOn.on h3 hbx
         try have h4 := SpOn.on h4 hbx
         try have h5 := SpOn.on h5 hbx
         try have h6 := SpOn.on h6 hbx
         try have h7 := SpOn.on h7 hbx
         try have h8 := SpOn.on h8 hbx
         have hbw := hbw.trans (hbx.mono hbw.size))
      | (go_at_call 20
         refine (Ha.out _ h0).mono ?_
         rintro e wn ⟨rfl, hbx⟩
         try have h0 := SpOn.on h0 hbx
         try have h1 := SpOn.on h1 hbx
         try have h3 := SpOn.on h3 hbx
         try have h4 := SpOn.on h4 hbx
         try have h5 := SpOn.on h5 hbx
         try have h6 := SpOn.on h6 hbx
         try have h7 := SpOn.on h7 hbx
         try have h8 := SpOn.on h8 hbx
         have hbw := hbw.trans (hbx.mono hbw.size))
      | (go_at_call 21
         refine (Hra.out _ h0).mono ?_
         rintro e wn ⟨rfl, hbx⟩
         try have h0 := SpOn.on h0 hbx
         try have h1 := SpOn.on h1 hbx
         try have h3 := SpOn.on h3 hbx
         try have h4 := SpOn.on h4 hbx
         try have h5 := SpOn.on h5 hbx
         try have h6 := SpOn.on h6 hbx
         try have h7 := SpOn.on h7 hbx
         try have h8 := SpOn.on h8 hbx
         have hbw := hbw.trans (hbx.mono hbw.size))
      | (go_at_call_of 10 (Value.slice A4 n4 c4)
         refine (refSame_yes h3 h4 (h3.le (nf_set _)) rfl).mono ?_
         rintro e wn ⟨rfl, hbx⟩
         try have h0 := SpOn.on h0 hbx
         try have h1 := SpOn.on h1 hbx
         try have h3 := SpOn.on h3 hbx
         try have h4 := SpOn.on h4 hbx
         try have h5 := SpOn.on h5 hbx
         try have h6 := SpOn.on h6 hbx
         try have h7 := SpOn.on h7 hbx
         try have h8 := SpOn.on h8 hbx
         have hbw := hbw.trans (hbx.mono hbw.size))
      | (go_at_call_of 10 (Value.slice A6 n6 c6)
         refine (refSame_yes h5 h6 (h5.le (nf_set _)) rfl).mono ?_
         rintro e wn ⟨rfl, hbx⟩
         try have h0 := SpOn.on h0 hbx
         try have h1 := SpOn.on h1 hbx
         try have h3 := SpOn.on h3 hbx
         try have h4 := SpOn.on h4 hbx
         try have h5 := SpOn.on h5 hbx
         try have h6 := SpOn.on h6 hbx
         try have h7 := SpOn.on h7 hbx
         try have h8 := SpOn.on h8 hbx
         have hbw := hbw.trans (hbx.mono hbw.size))
      | (go_at_call_of 10 (Value.slice A8 n8 c8)
         refine (refSame_yes h7 h8 (h7.le (nf_set _)) rfl).mono ?_
         rintro e wn ⟨rfl, hbx⟩
         try have h0 := SpOn.on h0 hbx
         try have h1 := SpOn.on h1 hbx
         try have h3 := SpOn.on h3 hbx
         try have h4 := SpOn.on h4 hbx
         try have h5 := SpOn.on h5 hbx
         try have h6 := SpOn.on h6 hbx
         try have h7 := SpOn.on h7 hbx
         try have h8 := SpOn.on h8 hbx
         have hbw := hbw.trans (hbx.mono hbw.size))
      | (go_at_call 22
         refine (union_on h0 h1 sa.out sb.out).mono ?_
         rintro e wn ⟨A3, n3, c3, rfl, h3, hbx⟩
         try have h0 := SpOn.on h0 hbx
         try have h1 := SpOn.on h1 hbx
         try have h4 := SpOn.on h4 hbx
         try have h5 := SpOn.on h5 hbx
         try have h6 := SpOn.on h6 hbx
         try have h7 := SpOn.on h7 hbx
         try have h8 := SpOn.on h8 hbx
         have hbw := hbw.trans (hbx.mono hbw.size))
      | (go_at_call 23
         refine (refUnion_on h0 h1 (by omega) (by omega)).mono ?_
         rintro e wn ⟨A4, n4, c4, rfl, h4, hbx⟩
         try have h0 := SpOn.on h0 hbx
         try have h1 := SpOn.on h1 hbx
         try have h3 := SpOn.on h3 hbx
         try have h5 := SpOn.on h5 hbx
         try have h6 := SpOn.on h6 hbx
         try have h7 := SpOn.on h7 hbx
         try have h8 := SpOn.on h8 hbx
         have hbw := hbw.trans (hbx.mono hbw.size))
      | (go_at_call 24
         refine (meet_on h0 h1 sa.out sb.out).mono ?_
         rintro e wn ⟨A5, n5, c5, rfl, h5, hbx⟩
         try have h0 := SpOn.on h0 hbx
         try have h1 := SpOn.on h1 hbx
         try have h3 := SpOn.on h3 hbx
         try have h4 := SpOn.on h4 hbx
         try have h6 := SpOn.on h6 hbx
         try have h7 := SpOn.on h7 hbx
         try have h8 := SpOn.on h8 hbx
         have hbw := hbw.trans (hbx.mono hbw.size))
      | (go_at_call 25
         refine (refMeet_on h0 h1 (by omega) (by omega)).mono ?_
         rintro e wn ⟨A6, n6, c6, rfl, h6, hbx⟩
         try have h0 := SpOn.on h0 hbx
         try have h1 := SpOn.on h1 hbx
         try have h3 := SpOn.on h3 hbx
         try have h4 := SpOn.on h4 hbx
         try have h5 := SpOn.on h5 hbx
         try have h7 := SpOn.on h7 hbx
         try have h8 := SpOn.on h8 hbx
         have hbw := hbw.trans (hbx.mono hbw.size))
      | (go_at_call 26
         refine (not_on h0 sa.out).mono ?_
         rintro e wn ⟨A7, n7, c7, rfl, h7, hbx⟩
         try have h0 := SpOn.on h0 hbx
         try have h1 := SpOn.on h1 hbx
         try have h3 := SpOn.on h3 hbx
         try have h4 := SpOn.on h4 hbx
         try have h5 := SpOn.on h5 hbx
         try have h6 := SpOn.on h6 hbx
         try have h8 := SpOn.on h8 hbx
         have hbw := hbw.trans (hbx.mono hbw.size))
      | (go_at_call 27
         refine (refNot_on h0 (by omega)).mono ?_
         rintro e wn ⟨A8, n8, c8, rfl, h8, hbx⟩
         try have h0 := SpOn.on h0 hbx
         try have h1 := SpOn.on h1 hbx
         try have h3 := SpOn.on h3 hbx
         try have h4 := SpOn.on h4 hbx
         try have h5 := SpOn.on h5 hbx
         try have h6 := SpOn.on h6 hbx
         try have h7 := SpOn.on h7 hbx
         have hbw := hbw.trans (hbx.mono hbw.size))
      | (go_at_call 28
         refine (Hw.out _ h0 h1).mono ?_
         rintro e wn ⟨rfl, hbx⟩
         try have h0 := SpOn.on h0 hbx
         try have h1 := SpOn.on h1 hbx
         try have h3 := SpOn.on h3 hbx
         try have h4 := SpOn.on h4 hbx
         try have h5 := SpOn.on h5 hbx
         try have h6 := SpOn.on h6 hbx
         try have h7 := SpOn.on h7 hbx
         try have h8 := SpOn.on h8 hbx
         have hbw := hbw.trans (hbx.mono hbw.size))
      | (go_at_call 29
         refine (Hrw.out _ h0 h1).mono ?_
         rintro e wn ⟨rfl, hbx⟩
         try have h0 := SpOn.on h0 hbx
         try have h1 := SpOn.on h1 hbx
         try have h3 := SpOn.on h3 hbx
         try have h4 := SpOn.on h4 hbx
         try have h5 := SpOn.on h5 hbx
         try have h6 := SpOn.on h6 hbx
         try have h7 := SpOn.on h7 hbx
         try have h8 := SpOn.on h8 hbx
         have hbw := hbw.trans (hbx.mono hbw.size))
      | (go_at_call 30
         refine (Hc.out _ h0).mono ?_
         rintro e wn ⟨rfl, hbx⟩
         try have h0 := SpOn.on h0 hbx
         try have h1 := SpOn.on h1 hbx
         try have h3 := SpOn.on h3 hbx
         try have h4 := SpOn.on h4 hbx
         try have h5 := SpOn.on h5 hbx
         try have h6 := SpOn.on h6 hbx
         try have h7 := SpOn.on h7 hbx
         try have h8 := SpOn.on h8 hbx
         have hbw := hbw.trans (hbx.mono hbw.size))
      | (go_at_call 31
         refine (Hrc.out _ h0).mono ?_
         rintro e wn ⟨rfl, hbx⟩
         try have h0 := SpOn.on h0 hbx
         try have h1 := SpOn.on h1 hbx
         try have h3 := SpOn.on h3 hbx
         try have h4 := SpOn.on h4 hbx
         try have h5 := SpOn.on h5 hbx
         try have h6 := SpOn.on h6 hbx
         try have h7 := SpOn.on h7 hbx
         try have h8 := SpOn.on h8 hbx
         have hbw := hbw.trans (hbx.mono hbw.size))
      | (go_at_call 7
         refine (awake_any _).mono ?_
         rintro e wn ⟨rfl, hbx⟩
         have hbw := hbw.trans (hbx.mono hbw.size)))
    go_ret
    exact ⟨rfl, hbw⟩
  · obtain ⟨m, rfl⟩ : ∃ m, n0 = m + 1 := ⟨n0 - 1, by omega⟩
    have hlen : a.length = m + 1 := h0.1
    obtain ⟨s, hs⟩ : ∃ s, a[0]? = some s := ⟨a[0]'(by omega), List.getElem?_eq_getElem (by omega)⟩
    obtain ⟨t, ht⟩ : ∃ t, a[m]? = some t := ⟨a[m]'(by omega), List.getElem?_eq_getElem (by omega)⟩
    have htr := Hmr.out t (List.mem_of_getElem? ht)
    rw [hs] at Hle
    rw [if_neg (by omega), Nat.add_sub_cancel, ht] at Hmo
    have e0 : decide (0 < m + 1) = true := by simp
    rw [e0] at Hle Hmo
    simp only [Option.getD_some] at Hle Hmo
    have Hs := hide hs
    have Ht := hide ht
    clear e0 hs ht hz hlen
    go_enter Try.func4, Try.ntmps4
    go_upto_region 5 with (first
      | (go_at_call_of 9 (Value.slice A1 n1 c1)
         refine (Hcb.out _ h1).mono ?_
         rintro e wn ⟨rfl, hbx⟩
         try have h0 := SpOn.on h0 hbx
         try have h1 := SpOn.on h1 hbx
         try have h3 := SpOn.on h3 hbx
         try have h4 := SpOn.on h4 hbx
         try have h5 := SpOn.on h5 hbx
         try have h6 := SpOn.on h6 hbx
         try have h7 := SpOn.on h7 hbx
         try have h8 := SpOn.on h8 hbx
         have hbw := hbw.trans (hbx.mono hbw.size))
      | (go_at_call 9
         refine (Hca.out _ h0).mono ?_
         rintro e wn ⟨rfl, hbx⟩
         try have h0 := SpOn.on h0 hbx
         try have h1 := SpOn.on h1 hbx
         try have h3 := SpOn.on h3 hbx
         try have h4 := SpOn.on h4 hbx
         try have h5 := SpOn.on h5 hbx
         try have h6 := SpOn.on h6 hbx
         try have h7 := SpOn.on h7 hbx
         try have h8 := SpOn.on h8 hbx
         have hbw := hbw.trans (hbx.mono hbw.size))
      | (go_at_call 18
         refine (Hle.out _ h0).mono ?_
         rintro e wn ⟨rfl, hbx⟩
         try have h0 := SpOn.on h0 hbx
         try have h1 := SpOn.on h1 hbx
         try have h3 := SpOn.on h3 hbx
         try have h4 := SpOn.on h4 hbx
         try have h5 := SpOn.on h5 hbx
         try have h6 := SpOn.on h6 hbx
         try have h7 := SpOn.on h7 hbx
         try have h8 := SpOn.on h8 hbx
         have hbw := hbw.trans (hbx.mono hbw.size))
      | (go_at_call 19
         refine (Hmo.out _ h0).mono ?_
         rintro e wn ⟨rfl, hbx⟩
         try have h0 := SpOn.on h0 hbx
         try have h1 := SpOn.on h1 hbx
         try have h3 := SpOn.on h3 hbx
         try have h4 := SpOn.on h4 hbx
         try have h5 := SpOn.on h5 hbx
         try have h6 := SpOn.on h6 hbx
         try have h7 := SpOn.on h7 hbx
         try have h8 := SpOn.on h8 hbx
         have hbw := hbw.trans (hbx.mono hbw.size)))
    obtain ⟨ad, s', rfl, _, hs', p1, _⟩ := SpIn.at_ h0 (k := 0) (by omega)
    obtain ⟨ad2, t', hA2, _, ht', _, p2⟩ := SpIn.at_ h0 (k := m) (by omega)
    injection hA2 with hA2
    subst hA2
    rw [Hs.out] at hs'
    rw [Ht.out] at ht'
    injection hs' with hs'
    injection ht' with ht'
    subst hs' ht'
    rw [Nat.zero_mul, add_zero'] at p1
    obtain ⟨s1, s2⟩ := s
    obtain ⟨t1, t2⟩ := t
    simp only [] at p1 p2 htr
    clear Hle Hmo Hca Hcb
    go_wp2_with (first
      | (go_at_call 20
         refine (Ha.out _ h0).mono ?_
         rintro e wn ⟨rfl, hbx⟩
         try have h0 := SpOn.on h0 hbx
         try have h1 := SpOn.on h1 hbx
         try have h3 := SpOn.on h3 hbx
         try have h4 := SpOn.on h4 hbx
         try have h5 := SpOn.on h5 hbx
         try have h6 := SpOn.on h6 hbx
         try have h7 := SpOn.on h7 hbx
         try have h8 := SpOn.on h8 hbx
         have hbw := hbw.trans (hbx.mono hbw.size))
      | (go_at_call 21
         refine (Hra.out _ h0).mono ?_
         rintro e wn ⟨rfl, hbx⟩
         try have h0 := SpOn.on h0 hbx
         try have h1 := SpOn.on h1 hbx
         try have h3 := SpOn.on h3 hbx
         try have h4 := SpOn.on h4 hbx
         try have h5 := SpOn.on h5 hbx
         try have h6 := SpOn.on h6 hbx
         try have h7 := SpOn.on h7 hbx
         try have h8 := SpOn.on h8 hbx
         have hbw := hbw.trans (hbx.mono hbw.size))
      | (go_at_call_of 10 (Value.slice A4 n4 c4)
         refine (refSame_yes h3 h4 (h3.le (nf_set _)) rfl).mono ?_
         rintro e wn ⟨rfl, hbx⟩
         try have h0 := SpOn.on h0 hbx
         try have h1 := SpOn.on h1 hbx
         try have h3 := SpOn.on h3 hbx
         try have h4 := SpOn.on h4 hbx
         try have h5 := SpOn.on h5 hbx
         try have h6 := SpOn.on h6 hbx
         try have h7 := SpOn.on h7 hbx
         try have h8 := SpOn.on h8 hbx
         have hbw := hbw.trans (hbx.mono hbw.size))
      | (go_at_call_of 10 (Value.slice A6 n6 c6)
         refine (refSame_yes h5 h6 (h5.le (nf_set _)) rfl).mono ?_
         rintro e wn ⟨rfl, hbx⟩
         try have h0 := SpOn.on h0 hbx
         try have h1 := SpOn.on h1 hbx
         try have h3 := SpOn.on h3 hbx
         try have h4 := SpOn.on h4 hbx
         try have h5 := SpOn.on h5 hbx
         try have h6 := SpOn.on h6 hbx
         try have h7 := SpOn.on h7 hbx
         try have h8 := SpOn.on h8 hbx
         have hbw := hbw.trans (hbx.mono hbw.size))
      | (go_at_call_of 10 (Value.slice A8 n8 c8)
         refine (refSame_yes h7 h8 (h7.le (nf_set _)) rfl).mono ?_
         rintro e wn ⟨rfl, hbx⟩
         try have h0 := SpOn.on h0 hbx
         try have h1 := SpOn.on h1 hbx
         try have h3 := SpOn.on h3 hbx
         try have h4 := SpOn.on h4 hbx
         try have h5 := SpOn.on h5 hbx
         try have h6 := SpOn.on h6 hbx
         try have h7 := SpOn.on h7 hbx
         try have h8 := SpOn.on h8 hbx
         have hbw := hbw.trans (hbx.mono hbw.size))
      | (go_at_call 22
         refine (union_on h0 h1 sa.out sb.out).mono ?_
         rintro e wn ⟨A3, n3, c3, rfl, h3, hbx⟩
         try have h0 := SpOn.on h0 hbx
         try have h1 := SpOn.on h1 hbx
         try have h4 := SpOn.on h4 hbx
         try have h5 := SpOn.on h5 hbx
         try have h6 := SpOn.on h6 hbx
         try have h7 := SpOn.on h7 hbx
         try have h8 := SpOn.on h8 hbx
         have hbw := hbw.trans (hbx.mono hbw.size))
      | (go_at_call 23
         refine (refUnion_on h0 h1 (by omega) (by omega)).mono ?_
         rintro e wn ⟨A4, n4, c4, rfl, h4, hbx⟩
         try have h0 := SpOn.on h0 hbx
         try have h1 := SpOn.on h1 hbx
         try have h3 := SpOn.on h3 hbx
         try have h5 := SpOn.on h5 hbx
         try have h6 := SpOn.on h6 hbx
         try have h7 := SpOn.on h7 hbx
         try have h8 := SpOn.on h8 hbx
         have hbw := hbw.trans (hbx.mono hbw.size))
      | (go_at_call 24
         refine (meet_on h0 h1 sa.out sb.out).mono ?_
         rintro e wn ⟨A5, n5, c5, rfl, h5, hbx⟩
         try have h0 := SpOn.on h0 hbx
         try have h1 := SpOn.on h1 hbx
         try have h3 := SpOn.on h3 hbx
         try have h4 := SpOn.on h4 hbx
         try have h6 := SpOn.on h6 hbx
         try have h7 := SpOn.on h7 hbx
         try have h8 := SpOn.on h8 hbx
         have hbw := hbw.trans (hbx.mono hbw.size))
      | (go_at_call 25
         refine (refMeet_on h0 h1 (by omega) (by omega)).mono ?_
         rintro e wn ⟨A6, n6, c6, rfl, h6, hbx⟩
         try have h0 := SpOn.on h0 hbx
         try have h1 := SpOn.on h1 hbx
         try have h3 := SpOn.on h3 hbx
         try have h4 := SpOn.on h4 hbx
         try have h5 := SpOn.on h5 hbx
         try have h7 := SpOn.on h7 hbx
         try have h8 := SpOn.on h8 hbx
         have hbw := hbw.trans (hbx.mono hbw.size))
      | (go_at_call 26
         refine (not_on h0 sa.out).mono ?_
         rintro e wn ⟨A7, n7, c7, rfl, h7, hbx⟩
         try have h0 := SpOn.on h0 hbx
         try have h1 := SpOn.on h1 hbx
         try have h3 := SpOn.on h3 hbx
         try have h4 := SpOn.on h4 hbx
         try have h5 := SpOn.on h5 hbx
         try have h6 := SpOn.on h6 hbx
         try have h8 := SpOn.on h8 hbx
         have hbw := hbw.trans (hbx.mono hbw.size))
      | (go_at_call 27
         refine (refNot_on h0 (by omega)).mono ?_
         rintro e wn ⟨A8, n8, c8, rfl, h8, hbx⟩
         try have h0 := SpOn.on h0 hbx
         try have h1 := SpOn.on h1 hbx
         try have h3 := SpOn.on h3 hbx
         try have h4 := SpOn.on h4 hbx
         try have h5 := SpOn.on h5 hbx
         try have h6 := SpOn.on h6 hbx
         try have h7 := SpOn.on h7 hbx
         have hbw := hbw.trans (hbx.mono hbw.size))
      | (go_at_call 28
         refine (Hw.out _ h0 h1).mono ?_
         rintro e wn ⟨rfl, hbx⟩
         try have h0 := SpOn.on h0 hbx
         try have h1 := SpOn.on h1 hbx
         try have h3 := SpOn.on h3 hbx
         try have h4 := SpOn.on h4 hbx
         try have h5 := SpOn.on h5 hbx
         try have h6 := SpOn.on h6 hbx
         try have h7 := SpOn.on h7 hbx
         try have h8 := SpOn.on h8 hbx
         have hbw := hbw.trans (hbx.mono hbw.size))
      | (go_at_call 29
         refine (Hrw.out _ h0 h1).mono ?_
         rintro e wn ⟨rfl, hbx⟩
         try have h0 := SpOn.on h0 hbx
         try have h1 := SpOn.on h1 hbx
         try have h3 := SpOn.on h3 hbx
         try have h4 := SpOn.on h4 hbx
         try have h5 := SpOn.on h5 hbx
         try have h6 := SpOn.on h6 hbx
         try have h7 := SpOn.on h7 hbx
         try have h8 := SpOn.on h8 hbx
         have hbw := hbw.trans (hbx.mono hbw.size))
      | (go_at_call 30
         refine (Hc.out _ h0).mono ?_
         rintro e wn ⟨rfl, hbx⟩
         try have h0 := SpOn.on h0 hbx
         try have h1 := SpOn.on h1 hbx
         try have h3 := SpOn.on h3 hbx
         try have h4 := SpOn.on h4 hbx
         try have h5 := SpOn.on h5 hbx
         try have h6 := SpOn.on h6 hbx
         try have h7 := SpOn.on h7 hbx
         try have h8 := SpOn.on h8 hbx
         have hbw := hbw.trans (hbx.mono hbw.size))
      | (go_at_call 31
         refine (Hrc.out _ h0).mono ?_
         rintro e wn ⟨rfl, hbx⟩
         try have h0 := SpOn.on h0 hbx
         try have h1 := SpOn.on h1 hbx
         try have h3 := SpOn.on h3 hbx
         try have h4 := SpOn.on h4 hbx
         try have h5 := SpOn.on h5 hbx
         try have h6 := SpOn.on h6 hbx
         try have h7 := SpOn.on h7 hbx
         try have h8 := SpOn.on h8 hbx
         have hbw := hbw.trans (hbx.mono hbw.size))
      | (go_at_call 7
         refine (awake_any _).mono ?_
         rintro e wn ⟨rfl, hbx⟩
         have hbw := hbw.trans (hbx.mono hbw.size)))
    go_ret
    exact ⟨rfl, hbw⟩
set_option maxHeartbeats 4000000 in
set_option maxRecDepth 100000 in
theorem does_skip (A0 : Option Addr) (n0 c0 : Nat) (a : List S) (A1 : Option Addr) (n1 c1 : Nat) (b : List S) (p : Int) (w : World)
    (h0 : SpOn w A0 n0 a) (h1 : SpOn w A1 n1 b) (h : n0 > 60 ∨ n1 > 60 ∨ isSet (-1) a = false ∨ isSet (-1) b = false) :
    Calls Try.prog 4 #[.slice A0 n0 c0, .slice A1 n1 c1, .int .i64 p] w fun e w' => e = .returned (.bool true) ∧ Below w.heap.size w w' := by
  have hbw : Below w.heap.size w w := Below.refl _ _
  have Hca := hide (fun wx (h : SpOn wx A0 n0 a) (hn : n0 ≤ 60) => refCheck_on (c := c0) h (by omega))
  have Hcb := hide (fun wx (h : SpOn wx A1 n1 b) (hn : n1 ≤ 60) => refCheck_on (c := c1) h (by omega))
  have Hr := hide h
  clear h
  generalize isSet (-1) a = x at *
  generalize isSet (-1) b = y at *
  by_cases g0 : n0 > 60
  · go_enter Try.func4, Try.ntmps4
    go_wp2_with (first
      | (go_at_call 7
         refine (awake_any _).mono ?_
         rintro e wn ⟨rfl, hbx⟩
         have hbw := hbw.trans (hbx.mono hbw.size)))
    go_ret
    exact ⟨rfl, hbw⟩
  · by_cases g1 : n1 > 60
    · go_enter Try.func4, Try.ntmps4
      go_wp2_with (first
        | (go_at_call 7
           refine (awake_any _).mono ?_
           rintro e wn ⟨rfl, hbx⟩
           have hbw := hbw.trans (hbx.mono hbw.size)))
      go_ret
      exact ⟨rfl, hbw⟩
    · have Ca := hide (fun wx h => Hca.out wx h (by omega))
      have Cb := hide (fun wx h => Hcb.out wx h (by omega))
      clear Hca Hcb
      cases x with
      | false =>
        go_enter Try.func4, Try.ntmps4
        go_wp2_with (first
          | (go_at_call_of 9 (Value.slice A1 n1 c1)
             refine (Cb.out _ h1).mono ?_
             rintro e wn ⟨rfl, hbx⟩
             try have h0 := SpOn.on h0 hbx
             try have h1 := SpOn.on h1 hbx
             have hbw := hbw.trans (hbx.mono hbw.size))
          | (go_at_call_of 9 (Value.slice A0 n0 c0)
             refine (Ca.out _ h0).mono ?_
             rintro e wn ⟨rfl, hbx⟩
             try have h0 := SpOn.on h0 hbx
             try have h1 := SpOn.on h1 hbx
             have hbw := hbw.trans (hbx.mono hbw.size))
          | (go_at_call 7
             refine (awake_any _).mono ?_
             rintro e wn ⟨rfl, hbx⟩
             have hbw := hbw.trans (hbx.mono hbw.size)))
        go_ret
        exact ⟨rfl, hbw⟩
      | true =>
        cases y with
        | false =>
          go_enter Try.func4, Try.ntmps4
          go_wp2_with (first
            | (go_at_call_of 9 (Value.slice A1 n1 c1)
               refine (Cb.out _ h1).mono ?_
               rintro e wn ⟨rfl, hbx⟩
               try have h0 := SpOn.on h0 hbx
               try have h1 := SpOn.on h1 hbx
               have hbw := hbw.trans (hbx.mono hbw.size))
            | (go_at_call_of 9 (Value.slice A0 n0 c0)
               refine (Ca.out _ h0).mono ?_
               rintro e wn ⟨rfl, hbx⟩
               try have h0 := SpOn.on h0 hbx
               try have h1 := SpOn.on h1 hbx
               have hbw := hbw.trans (hbx.mono hbw.size))
            | (go_at_call 7
               refine (awake_any _).mono ?_
               rintro e wn ⟨rfl, hbx⟩
               have hbw := hbw.trans (hbx.mono hbw.size)))
          go_ret
          exact ⟨rfl, hbw⟩
        | true =>
          rcases Hr.out with h | h | h | h
          · exact absurd h g0
          · exact absurd h g1
          · cases h
          · cases h
end Go.Proofs.Ytbkbamidkofajaa.Span
