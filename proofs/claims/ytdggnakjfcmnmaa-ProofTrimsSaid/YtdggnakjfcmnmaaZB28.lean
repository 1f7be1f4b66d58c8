/-
  Some texts of this claim, one behind the other: ProofSpec, ProofTrimsW, ProofCheck, ProofEqual, ProofStand. What each proves, and its condition, stands at its head.
-/
import Derived.Test.YtdggnakjfcmnmaaZB9
import Derived.Test.YtdggnakjfcmnmaaZB23
import Derived.Test.YtdggnakjfcmnmaaZB24
import Derived.Test.YtdggnakjfcmnmaaZB27
import Derived.Test.YtdggnakjfcmnmaaZB21
import Derived.Deep.OwnRows
/-
  What the program's functions over proofs have to tell, as premises of the laws' walks; and the chapter's example (awake) over two of them.
-/
namespace Go.Proofs.Ytdggnakjfcmnmaa.Proof
open Go Go.RowKit Go.Lib Go.Proofs.Ytdggnakjfcmnmaa.Need Go.Proofs.Ytdggnakjfcmnmaa.Mani
open Go.Proofs.Ytdggnakjfcmnmaa.Label (runes fitL runes_step runes_end)
set_option linter.unusedVariables false
def NamesS (l : List Sp) : Prop := ∀ s ∈ l, s.name.size ≤ 1000000000 ∧ s.dest.size ≤ 1000000000
def SpecCheckPf : Prop := ∀ (l : List Sp) (A : Option Addr) (n c : Nat) (w : World), PfOn w A n l → n ≤ 1000000000 → NamesS l →
  Calls Try.prog 8 #[.slice A n c] w fun e w' => e = .returned (.bool (okPf l)) ∧ Below w.heap.size w w'
def SpecSamePf : Prop := ∀ (l m : List Sp) (A A' : Option Addr) (n c n' c' : Nat) (w : World), PfOn w A n l → PfOn w A' n' m → n ≤ 1000000000 → n' ≤ 1000000000 →
  Calls Try.prog 10 #[.slice A n c, .slice A' n' c'] w fun e w' => e = .returned (.bool (alikeP l m)) ∧ Below w.heap.size w w'
def SpecTrimPf : Prop := ∀ (l : List Sp) (A : Option Addr) (n c : Nat) (w : World), PfOn w A n l → n ≤ c → okPf l = true →
  Calls Try.prog 12 #[.slice A n c] w (TellsPf w (trimT l))
def SpecLeavesPf : Prop := ∀ (l : List Sp) (A : Option Addr) (n c : Nat) (w : World), PfOn w A n l → n ≤ c → n ≤ 1000 → okPf l = true →
  Calls Try.prog 15 #[.slice A n c] w (MakesT w (leavesT l))
/-! The example. -/
def exS : List Sp := [⟨1, ⟨#[97]⟩, 0, ⟨#[]⟩, 0, 0⟩, ⟨2, ⟨#[98]⟩, 0, ⟨#[]⟩, 0, 0⟩, ⟨2, ⟨#[97]⟩, 0, ⟨#[]⟩, 0, 0⟩, ⟨4, ⟨#[97]⟩, 0, ⟨#[]⟩, 0, 2⟩]
def exT : List Sp := [⟨1, ⟨#[97]⟩, 0, ⟨#[]⟩, 0, 0⟩, ⟨2, ⟨#[97]⟩, 0, ⟨#[]⟩, 0, 0⟩, ⟨4, ⟨#[97]⟩, 0, ⟨#[]⟩, 0, 1⟩]
theorem fit_exS (b : UInt8) (h : b = 97 ∨ b = 98) : fitL (runes ⟨#[b]⟩ 0) = true := by
  show fitL (runes (str [b]) 0) = true
  rcases h with rfl | rfl <;>
  · rw [runes_step _ _ (by decide), runes_end _ _ (by decide)]
    decide
theorem ex_ok : okPf exS = true := by
  refine okPf_of (by decide) (fun i s hs => ?_) (by decide)
  match i, hs with
  | 0, hs => injection hs with hs; subst hs; unfold mayS; simp only [fit_exS 97 (.inl rfl)]; decide
  | 1, hs => injection hs with hs; subst hs; unfold mayS; simp only [fit_exS 98 (.inr rfl)]; decide
  | 2, hs => injection hs with hs; subst hs; unfold mayS; simp only [fit_exS 97 (.inl rfl)]; decide
  | 3, hs => injection hs with hs; subst hs; unfold mayS; simp only [fit_exS 97 (.inl rfl)]; decide
  | i + 4, hs => cases hs
theorem ex_trim : trimT exS = exT := by decide
theorem reads_exS (w : World) (g : Nat) (hg : g = w.heap.size) : Reads (w.alloc (.cells (pfs exS).toArray 40)) (g + 1) 6 (some ⟨g, 0, none⟩) 4 (pfs exS) := by
  subst hg
  have h := Reads.newL w 40 (pfs exS).toArray
  exact ⟨rfl, fun _ => h.2 (by simp [exS, pfs])⟩
set_option maxHeartbeats 4000000 in
set_option maxRecDepth 100000 in
theorem awakePf_any (SC : SpecCheckPf) (ST : SpecTrimPf) (w : World) :
    Calls Try.prog 7 #[] w fun e w' => e = .returned (.bool true) ∧ Below w.heap.size w w' := by
  have HC := hide (fun (wx : World) (A : Option Addr) (c : Nat) (hx : PfOn wx A 4 exS) => SC exS A 4 c wx hx (by omega) (fun s hs => by simp only [exS, List.mem_cons, List.not_mem_nil, or_false] at hs; rcases hs with rfl | rfl | rfl | rfl <;> exact ⟨by decide, by decide⟩))
  have HT := hide (fun (wx : World) (A : Option Addr) (c : Nat) (hc : 4 ≤ c) (hx : PfOn wx A 4 exS) => ST exS A 4 c wx hx hc ex_ok)
  rw [ex_ok] at HC
  rw [ex_trim] at HT
  unfold TellsPf at HT
  have heq := eq_steps 4 ⟨#[97]⟩ 0 ⟨#[]⟩ 0 1 4 ⟨#[97]⟩ 0 ⟨#[]⟩ 0 1
  rw [samepf_iff, decide_eq_true rfl] at heq
  have hb0 : Below w.heap.size w (w.alloc (.cells (pfs exS).toArray 40)) := alloc_b _ _
  have hr0 : PfOn (w.alloc (.cells (pfs exS).toArray 40)) (some ⟨w.heap.size, 0, none⟩) 4 exS := (reads_exS w _ rfl).more (by simp)
  rw [show (pfs exS).toArray = #[.int .i64 1, .string ⟨#[97]⟩, .int .i64 0, .string ⟨#[]⟩, .int .i64 0, .int .i64 0, .int .i64 2, .string ⟨#[98]⟩, .int .i64 0, .string ⟨#[]⟩, .int .i64 0, .int .i64 0, .int .i64 2, .string ⟨#[97]⟩, .int .i64 0, .string ⟨#[]⟩, .int .i64 0, .int .i64 0, .int .i64 4, .string ⟨#[97]⟩, .int .i64 0, .string ⟨#[]⟩, .int .i64 0, .int .i64 2] from rfl] at hb0 hr0
  clear SC ST
  go_enter Try.func7, Try.ntmps7
  go_wp2_with (first
    | (go_at_call 12
       refine (HT.out _ _ _ (by omega) hr0).mono ?_
       rintro e w1 ⟨A1, n1, c1, rfl, hc1, h1, hb1⟩
       have hb2 := hb0.trans (hb1.mono (by simp))
       have hr2 := hr0.on hb1
       have hn1 : n1 = 3 := h1.len.symm
       subst hn1)
    | (go_at_call 8
       refine (HC.out _ _ _ hr2).mono ?_
       rintro e w3 ⟨rfl, hb3⟩
       have hb4 := hb2.trans (hb3.mono hb2.size)
       obtain ⟨ad, q, rfl, hbl, hx, p0, p1, p2, p3, p4, p5⟩ := PfIn.at_ (h1.on hb3) (show 2 < 3 by omega)
       have hq : q = ⟨4, ⟨#[97]⟩, 0, ⟨#[]⟩, 0, 1⟩ := (Option.some.inj hx).symm
       subst hq
       have ea : ad.add (2 * 6) = ⟨ad.block, ad.off + 12, none⟩ := by unfold Addr.add; simp
       rw [ea] at p0 p1 p2 p3 p4 p5
       simp only [] at p0 p1 p2 p3 p4 p5
       clear hx ea))
  go_ret
  exact ⟨rfl, hb4⟩
end Go.Proofs.Ytdggnakjfcmnmaa.Proof
/-
  The law ProofTrims, if the program's Check, Same, Trim and Leaves tell what they have to.
-/
namespace Go.Proofs.Ytdggnakjfcmnmaa.Proof
open Go Go.RowKit Go.Lib Go.Proofs.Ytdggnakjfcmnmaa.Need Go.Proofs.Ytdggnakjfcmnmaa.Mani
set_option linter.unusedVariables false
theorem addF_in {x : ByteArray} {l : List ByteArray} (hl : RisesN l) (h : x ∈ l) : addF x false l = l := by
  induction l with
  | nil => cases h
  | cons y t ih =>
    rcases List.mem_cons.1 h with rfl | h2
    · rw [addF_eq rfl, addF_true]; rfl
    · have hyx : nlt y x = true := (List.pairwise_cons.1 hl).1 x h2
      rw [addF_gt hyx, ih (List.pairwise_cons.1 hl).2 h2]; rfl
theorem leaves_trim {l : List Sp} {z : ByteArray} (h : z ∈ leavesT (trimT l)) : z ∈ leavesT l := by
  obtain ⟨s, hs, hk, hz⟩ := (leaves_mem _ _).1 h
  obtain ⟨m, hm, rfl⟩ := List.getElem_of_mem hs
  obtain ⟨i, s, h1, _, _, h4⟩ := trim_from m (show (trimT l)[m]? = some (trimT l)[m] by simp)
  have hr := re_kind (l := l) s
  rw [h4, hr.1] at hk
  rw [h4, hr.2.1] at hz
  exact (leaves_mem _ _).2 ⟨s, List.mem_of_getElem? h1, hk, hz⟩
theorem last_trim {l : List Sp} (h : okPf l = true) : ∃ s t, l[l.length - 1]? = some s ∧ (trimT l)[(trimT l).length - 1]? = some t ∧ t.kind = s.kind ∧ t.name = s.name ∧ t.ver = s.ver ∧ t.dest = s.dest := by
  obtain ⟨h1, h2, h3⟩ := okPf_steps h
  have hs : l[l.length - 1]? = some (l[l.length - 1]'(by omega)) := by simp
  have hu : usedT l (l.length - 1) = true := (used_iff h2 _).2 .last
  have ht := trim_at hs hu
  rw [← (trim_last h2 h3).1] at ht
  have hr := re_kind (l := l) (l[l.length - 1]'(by omega))
  exact ⟨_, _, hs, ht, hr.1, hr.2.1, hr.2.2.1, hr.2.2.2⟩
set_option maxHeartbeats 8000000 in
set_option maxRecDepth 100000 in
theorem ptrims_walk (SC : SpecCheckPf) (SS : SpecSamePf) (ST : SpecTrimPf) (SL : SpecLeavesPf) (l : List Sp) (A0 : Option Addr) (n0 c0 : Nat) (w : World) (h : PfOn w A0 n0 l) (hn : n0 ≤ 9223372036854775807) (hc : n0 ≤ c0) :
    Calls Try.prog 5 #[.slice A0 n0 c0] w fun e w' => e = .returned (.bool true) ∧ Below w.heap.size w w' := by
  have HW := hide (fun wx => awakePf_any SC ST wx)
  have HL0 := hide (largeS_any l A0 n0 c0 w h hn)
  have hlen := h.len
  cases hl0 : largeS l with
  | true =>
    rw [hl0] at HL0
    clear SC SS ST SL
    go_enter Try.func5, Try.ntmps5
    go_wp2_with (first
      | (go_at_call 6
         refine HL0.out.mono ?_
         rintro e w1 ⟨rfl, rfl⟩)
      | (go_at_call 7
         refine (HW.out _).mono ?_
         rintro e w2 ⟨rfl, hb2⟩))
    go_ret
    exact ⟨rfl, hb2⟩
  | false =>
    rw [hl0] at HL0
    have hs0 := large_short hl0
    have hf0 : NamesS l := fun s hs => by have := large_fine hl0 s hs; omega
    have HC := hide (SC l A0 n0 c0 w h (by omega) hf0)
    clear hl0
    cases ho : okPf l with
    | false =>
      rw [ho] at HC
      clear SC SS ST SL h
      go_enter Try.func5, Try.ntmps5
      go_wp2_with (first
        | (go_at_call 6
           refine HL0.out.mono ?_
           rintro e w1 ⟨rfl, rfl⟩)
        | (go_at_call 7
           refine (HW.out _).mono ?_
           rintro e w2 ⟨rfl, hb2⟩)
        | (go_at_call 8
           refine HC.out.mono ?_
           rintro e w3 ⟨rfl, hb3⟩))
      go_ret
      exact ⟨rfl, hb3.trans (hb2.mono hb3.size)⟩
    | true =>
      rw [ho] at HC
      obtain ⟨g1, g2, g3⟩ := okPf_steps ho
      have hot := okPf_trim ho
      have htw : trimT (trimT l) = trimT l := trim_twice g2 g3
      have htl := trim_le (l := l)
      have htl1 := (okPf_steps hot).2.2
      have hft : NamesS (trimT l) := fun s hs => by
        have := ok_all_steps hot s hs
        refine ⟨by have := this.2.1; omega, ?_⟩
        by_cases hk : s.kind = 3
        · have := (this.2.2.1 hk).2; omega
        · rw [(this.2.2.2.1 hk).1]; simp
      have hll := leaves_len l l.length
      rw [List.take_length] at hll
      have hlr := leaves_rises l
      have HT := hide (fun (wx : World) (hx : Below w.heap.size w wx) => ST l A0 n0 c0 wx (h.on hx) hc ho)
      have HCt := hide (fun (A : Option Addr) (n c : Nat) (wx : World) (hx : PfOn wx A n (trimT l)) => SC (trimT l) A n c wx hx (by have := hx.len; omega) hft)
      have HTt := hide (fun (A : Option Addr) (n c : Nat) (wx : World) (hx : PfOn wx A n (trimT l)) (hc : n ≤ c) => ST (trimT l) A n c wx hx hc hot)
      have HS := hide (fun (A A' : Option Addr) (n c n' c' : Nat) (wx : World) (h1 : PfOn wx A n (trimT l)) (h2 : PfOn wx A' n' (trimT l)) => SS (trimT l) (trimT l) A A' n c n' c' wx h1 h2 (by have := h1.len; omega) (by have := h2.len; omega))
      have HLv := hide (fun (wx : World) (hx : Below w.heap.size w wx) => SL l A0 n0 c0 wx (h.on hx) hc (by have := hs0.2 (by omega); omega) ho)
      have HLt := hide (fun (A : Option Addr) (n c : Nat) (wx : World) (hx : PfOn wx A n (trimT l)) (hc : n ≤ c) => SL (trimT l) A n c wx hx hc (by have := hs0.2 (by omega); have := hx.len; have := trim_le (l := l); omega) hot)
      have HA := hide (fun (z : ByteArray) (A : Option Addr) (n c : Nat) (wx : World) (hx : TxOn wx A n (leavesT l)) (hz : z ∈ leavesT (trimT l)) => by
        have := add_any (leavesT l) z A n c wx hx (by have := hx.len; omega)
        rw [addF_in hlr (leaves_trim hz)] at this
        exact this)
      have hlast := hide (last_trim ho)
      have hlt9 := leaves_len (trimT l) (trimT l).length
      rw [List.take_length] at hlt9
      have HV9 := hide (show (leavesT (trimT l)).length ≤ n0 by omega)
      rw [hot] at HCt
      rw [htw] at HTt
      simp only [alikeP_self] at HS
      unfold TellsPf at HT HTt
      unfold MakesT at HLv HLt HA
      have HTl := hide (show (trimT l).length ≤ n0 by omega)
      have HTl1 := hide (show 1 ≤ (trimT l).length from htl1)
      have Hlen := hide hlen
      have Hl1 := hide (show 1 ≤ n0 by omega)
      have H0 := hide h
      clear hlt9 hot htw hft hll hlr htl htl1 hlen g1 g2 g3 ho SC SS ST SL h hs0 hf0
      generalize trimT l = T at *
      generalize leavesT l = V at *
      generalize leavesT T = VT at *
      go_enter Try.func5, Try.ntmps5
      go_upto_region 4 with (first
        | (go_at_call 6
           refine HL0.out.mono ?_
           rintro e w1 ⟨rfl, rfl⟩)
        | (go_at_call 12
           refine (HT.out _ hb3).mono ?_
           rintro e w4 ⟨A4, n4, c4, rfl, hc4, h4, hb4x⟩
           have hb4 := hb3.trans (hb4x.mono hb3.size))
        | (go_at_call 8
           refine HC.out.mono ?_
           rintro e w3 ⟨rfl, hb3⟩))
      have hn4 : (n4 : Int) ≤ (n0 : Int) := by have := h4.len; have := HTl.out; omega
      clear HT HC HL0 hb3 hb4x
      go_upto_region 8 with (first
        | (go_at_call 10
           refine (HS.out _ _ _ _ _ _ _ h6 h46).mono ?_
           rintro e w7 ⟨rfl, hb7x⟩
           have hb7 := hb6.trans (hb7x.mono hb6.size)
           have h47 := h46.on hb7x)
        | (go_at_call 12
           refine (HTt.out _ _ _ _ h45 hc4).mono ?_
           rintro e w6 ⟨A6, n6, c6, rfl, _, h6, hb6x⟩
           have hb6 := hb5.trans (hb6x.mono hb5.size)
           have h46 := h45.on hb6x)
        | (go_at_call 8
           refine (HCt.out _ _ _ _ h4).mono ?_
           rintro e w5 ⟨rfl, hb5x⟩
           have hb5 := hb4.trans (hb5x.mono hb4.size)
           have h45 := h4.on hb5x)
        | (go_at_call_of 15 (Value.slice A0 n0 c0)
           refine (HLv.out _ hb7).mono ?_
           rintro e w8 ⟨A8, n8, c8, rfl, h8, hb8x⟩
           have hb8 := hb7.trans (hb8x.mono hb7.size)
           have h48 := h47.on hb8x)
        | (go_at_call_of 15 (Value.slice A4 n4 c4)
           refine (HLt.out _ _ _ _ h48 hc4).mono ?_
           rintro e w9 ⟨A9, n9, c9, rfl, h9, hb9x⟩
           have hb9 := hb8.trans (hb9x.mono hb8.size)
           have h89 := h8.on hb9x
           have h49 := h48.on hb9x))
      have hs9 := hb9.size
      have hn9 : n9 ≤ n0 := by have := h9.len; have := HV9.out; omega
      clear HS HTt HCt HLv HLt hb4 hb5 hb6 hb7 hb8 h45 h46 h47 h48 h8 h4 h6 hb5x hb6x hb7x hb8x hb9x
      go_wp2
      go_loopw [6] (fun v wr => ∃ i : Nat, i ≤ n9 ∧ v = .int .i64 (i : Int) ∧ Below w9.heap.size w9 wr) (fun v _ => n9 - (RowKit.intOf v).toNat)
      case atStart => exact ⟨0, by omega, rfl, Below.refl _ _⟩
      case round =>
        obtain ⟨i, hi, rfl, hb⟩ := hrel
        have hbs := hb.size
        by_cases hlt : i < n9
        · obtain ⟨ad, z, rfl, hbl, hz, p1⟩ := tcs_at (h9.on hb) hlt
          have HAz := hide (HA.out z A8 n8 c8 wr (h89.on hb) (List.mem_of_getElem? hz))
          have hi1 : (0 : Int) ≤ (i : Int) := by omega
          have hi2 : (i : Int) < (n9 : Int) := by omega
          have H8 := hide h89.len
          clear hz h89 h9
          go_wp2_with (first
            | (go_at_call 21
               refine HAz.out.mono ?_
               rintro e w10 ⟨A10, n10, c10, rfl, h10, hb10x⟩
               have hb10 := hb.trans (hb10x.mono hbs)
               have hnn : n10 = n8 := h10.len.symm.trans H8.out
               subst hnn))
          go_roundw
          case rel => exact ⟨i + 1, by omega, by go_num, hb10⟩
          case measure => simp [RowKit.intOf]; omega
        · obtain ⟨s, t, q1, q2, q3, q4, q5, q6⟩ := hlast.out
          obtain ⟨m0, hm0⟩ : ∃ m, m = n0 - 1 := ⟨_, rfl⟩
          obtain ⟨m4, hm4⟩ : ∃ m, m = n4 - 1 := ⟨_, rfl⟩
          have hT4 : T.length = n4 := h49.len
          rw [Hlen.out, ← hm0] at q1
          rw [hT4, ← hm4] at q2
          have hb3 := hb9.trans (hb.mono hs9)
          have z0 := Hl1.out
          have z4 := HTl1.out
          obtain ⟨ad, s', rfl, hbl, hx, c0, c1, c2, c3, c4, c5⟩ := PfIn.at_ (H0.out.on hb3) (show m0 < n0 by omega)
          obtain ⟨ad4, t', rfl, hbl4, hx4, d0, d1, d2, d3, d4, d5⟩ := PfIn.at_ (h49.on hb) (show m4 < n4 by omega)
          rw [q1] at hx
          rw [q2] at hx4
          injection hx with hx
          injection hx4 with hx4
          subst hx hx4
          obtain ⟨k, nm, v, d, a, b⟩ := s
          obtain ⟨k', nm', v', d', a', b'⟩ := t
          simp only [] at c0 c1 c2 c3 c4 c5 d0 d1 d2 d3 d4 d5 q3 q4 q5 q6
          subst q3 q4 q5 q6
          have i0 : (0 : Int) ≤ (m0 : Int) := by omega
          have i1 : (m0 : Int) < (n0 : Int) := by omega
          have i2 : (0 : Int) ≤ (m4 : Int) := by omega
          have i3 : (m4 : Int) < (n4 : Int) := by omega
          have w0 : IntKind.i64.wrap ((n0 : Int) - 1) = (m0 : Int) := by rw [IntKind.wrap_i64]; omega
          have w4 : IntKind.i64.wrap ((n4 : Int) - 1) = (m4 : Int) := by rw [IntKind.wrap_i64]; omega
          clear q1 q2 hm0 hm4 hT4 z0 z4 h89 h9 h49 H0 hlast
          have hbW1 : Below wr.heap.size wr ((wr.alloc (.cells #[.int .i64 0, .string ⟨#[]⟩, .int .i64 0, .string ⟨#[]⟩, .int .i64 0, .int .i64 0] 40)).alloc (.cells #[.int .i64 0, .string ⟨#[]⟩, .int .i64 0, .string ⟨#[]⟩, .int .i64 0, .int .i64 0] 40)).drew := (((Below.refl _ _).alloc (Nat.le_refl _) _).alloc (by simp) _).drew
          have cw10 := (hbW1.cell (p := ad.add (m0 * 6)) (by simp only [block_of_add]; exact hbl)).trans c0
          have cw11 := (hbW1.cell (p := ⟨(ad.add (m0 * 6)).block, (ad.add (m0 * 6)).off + 1, none⟩) (by simp only [block_of_add]; exact hbl)).trans c1
          have cw12 := (hbW1.cell (p := ⟨(ad.add (m0 * 6)).block, (ad.add (m0 * 6)).off + 2, none⟩) (by simp only [block_of_add]; exact hbl)).trans c2
          have cw13 := (hbW1.cell (p := ⟨(ad.add (m0 * 6)).block, (ad.add (m0 * 6)).off + 3, none⟩) (by simp only [block_of_add]; exact hbl)).trans c3
          have cw14 := (hbW1.cell (p := ⟨(ad.add (m0 * 6)).block, (ad.add (m0 * 6)).off + 4, none⟩) (by simp only [block_of_add]; exact hbl)).trans c4
          have cw15 := (hbW1.cell (p := ⟨(ad.add (m0 * 6)).block, (ad.add (m0 * 6)).off + 5, none⟩) (by simp only [block_of_add]; exact hbl)).trans c5
          have dw10 := (hbW1.cell (p := ad4.add (m4 * 6)) (by simp only [block_of_add]; exact hbl4)).trans d0
          have dw11 := (hbW1.cell (p := ⟨(ad4.add (m4 * 6)).block, (ad4.add (m4 * 6)).off + 1, none⟩) (by simp only [block_of_add]; exact hbl4)).trans d1
          have dw12 := (hbW1.cell (p := ⟨(ad4.add (m4 * 6)).block, (ad4.add (m4 * 6)).off + 2, none⟩) (by simp only [block_of_add]; exact hbl4)).trans d2
          have dw13 := (hbW1.cell (p := ⟨(ad4.add (m4 * 6)).block, (ad4.add (m4 * 6)).off + 3, none⟩) (by simp only [block_of_add]; exact hbl4)).trans d3
          have dw14 := (hbW1.cell (p := ⟨(ad4.add (m4 * 6)).block, (ad4.add (m4 * 6)).off + 4, none⟩) (by simp only [block_of_add]; exact hbl4)).trans d4
          have dw15 := (hbW1.cell (p := ⟨(ad4.add (m4 * 6)).block, (ad4.add (m4 * 6)).off + 5, none⟩) (by simp only [block_of_add]; exact hbl4)).trans d5
          have hbW2 : Below wr.heap.size wr ((wr.alloc (.cells #[.int .i64 0, .string ⟨#[]⟩, .int .i64 0, .string ⟨#[]⟩, .int .i64 0, .int .i64 0] 40)).alloc (.cells #[.int .i64 k', .string nm', .int .i64 v', .string d', .int .i64 a', .int .i64 b'] 40)).drew := (((Below.refl _ _).alloc (Nat.le_refl _) _).alloc (by simp) _).drew
          have cw20 := (hbW2.cell (p := ad.add (m0 * 6)) (by simp only [block_of_add]; exact hbl)).trans c0
          have cw21 := (hbW2.cell (p := ⟨(ad.add (m0 * 6)).block, (ad.add (m0 * 6)).off + 1, none⟩) (by simp only [block_of_add]; exact hbl)).trans c1
          have cw22 := (hbW2.cell (p := ⟨(ad.add (m0 * 6)).block, (ad.add (m0 * 6)).off + 2, none⟩) (by simp only [block_of_add]; exact hbl)).trans c2
          have cw23 := (hbW2.cell (p := ⟨(ad.add (m0 * 6)).block, (ad.add (m0 * 6)).off + 3, none⟩) (by simp only [block_of_add]; exact hbl)).trans c3
          have cw24 := (hbW2.cell (p := ⟨(ad.add (m0 * 6)).block, (ad.add (m0 * 6)).off + 4, none⟩) (by simp only [block_of_add]; exact hbl)).trans c4
          have cw25 := (hbW2.cell (p := ⟨(ad.add (m0 * 6)).block, (ad.add (m0 * 6)).off + 5, none⟩) (by simp only [block_of_add]; exact hbl)).trans c5
          have hbW3 : Below wr.heap.size wr ((wr.alloc (.cells #[.int .i64 k', .string nm', .int .i64 v', .string d', .int .i64 a', .int .i64 b'] 40)).alloc (.cells #[.int .i64 0, .string ⟨#[]⟩, .int .i64 0, .string ⟨#[]⟩, .int .i64 0, .int .i64 0] 40)).drew := (((Below.refl _ _).alloc (Nat.le_refl _) _).alloc (by simp) _).drew
          have cw30 := (hbW3.cell (p := ad.add (m0 * 6)) (by simp only [block_of_add]; exact hbl)).trans c0
          have cw31 := (hbW3.cell (p := ⟨(ad.add (m0 * 6)).block, (ad.add (m0 * 6)).off + 1, none⟩) (by simp only [block_of_add]; exact hbl)).trans c1
          have cw32 := (hbW3.cell (p := ⟨(ad.add (m0 * 6)).block, (ad.add (m0 * 6)).off + 2, none⟩) (by simp only [block_of_add]; exact hbl)).trans c2
          have cw33 := (hbW3.cell (p := ⟨(ad.add (m0 * 6)).block, (ad.add (m0 * 6)).off + 3, none⟩) (by simp only [block_of_add]; exact hbl)).trans c3
          have cw34 := (hbW3.cell (p := ⟨(ad.add (m0 * 6)).block, (ad.add (m0 * 6)).off + 4, none⟩) (by simp only [block_of_add]; exact hbl)).trans c4
          have cw35 := (hbW3.cell (p := ⟨(ad.add (m0 * 6)).block, (ad.add (m0 * 6)).off + 5, none⟩) (by simp only [block_of_add]; exact hbl)).trans c5
          have hbW4 : Below wr.heap.size wr ((wr.alloc (.cells #[.int .i64 0, .string ⟨#[]⟩, .int .i64 0, .string ⟨#[]⟩, .int .i64 0, .int .i64 0] 40)).alloc (.cells #[.int .i64 k', .string nm', .int .i64 v', .string d', .int .i64 a, .int .i64 b] 40)).drew := (((Below.refl _ _).alloc (Nat.le_refl _) _).alloc (by simp) _).drew
          have dw40 := (hbW4.cell (p := ad4.add (m4 * 6)) (by simp only [block_of_add]; exact hbl4)).trans d0
          have dw41 := (hbW4.cell (p := ⟨(ad4.add (m4 * 6)).block, (ad4.add (m4 * 6)).off + 1, none⟩) (by simp only [block_of_add]; exact hbl4)).trans d1
          have dw42 := (hbW4.cell (p := ⟨(ad4.add (m4 * 6)).block, (ad4.add (m4 * 6)).off + 2, none⟩) (by simp only [block_of_add]; exact hbl4)).trans d2
          have dw43 := (hbW4.cell (p := ⟨(ad4.add (m4 * 6)).block, (ad4.add (m4 * 6)).off + 3, none⟩) (by simp only [block_of_add]; exact hbl4)).trans d3
          have dw44 := (hbW4.cell (p := ⟨(ad4.add (m4 * 6)).block, (ad4.add (m4 * 6)).off + 4, none⟩) (by simp only [block_of_add]; exact hbl4)).trans d4
          have dw45 := (hbW4.cell (p := ⟨(ad4.add (m4 * 6)).block, (ad4.add (m4 * 6)).off + 5, none⟩) (by simp only [block_of_add]; exact hbl4)).trans d5
          have hbW5 : Below wr.heap.size wr ((wr.alloc (.cells #[.int .i64 k', .string nm', .int .i64 v', .string d', .int .i64 a, .int .i64 b] 40)).alloc (.cells #[.int .i64 0, .string ⟨#[]⟩, .int .i64 0, .string ⟨#[]⟩, .int .i64 0, .int .i64 0] 40)).drew := (((Below.refl _ _).alloc (Nat.le_refl _) _).alloc (by simp) _).drew
          have dw50 := (hbW5.cell (p := ad4.add (m4 * 6)) (by simp only [block_of_add]; exact hbl4)).trans d0
          have dw51 := (hbW5.cell (p := ⟨(ad4.add (m4 * 6)).block, (ad4.add (m4 * 6)).off + 1, none⟩) (by simp only [block_of_add]; exact hbl4)).trans d1
          have dw52 := (hbW5.cell (p := ⟨(ad4.add (m4 * 6)).block, (ad4.add (m4 * 6)).off + 2, none⟩) (by simp only [block_of_add]; exact hbl4)).trans d2
          have dw53 := (hbW5.cell (p := ⟨(ad4.add (m4 * 6)).block, (ad4.add (m4 * 6)).off + 3, none⟩) (by simp only [block_of_add]; exact hbl4)).trans d3
          have dw54 := (hbW5.cell (p := ⟨(ad4.add (m4 * 6)).block, (ad4.add (m4 * 6)).off + 4, none⟩) (by simp only [block_of_add]; exact hbl4)).trans d4
          have dw55 := (hbW5.cell (p := ⟨(ad4.add (m4 * 6)).block, (ad4.add (m4 * 6)).off + 5, none⟩) (by simp only [block_of_add]; exact hbl4)).trans d5
          have hbW6 : Below wr.heap.size wr (wr.alloc (.cells #[.int .i64 0, .string ⟨#[]⟩, .int .i64 0, .string ⟨#[]⟩, .int .i64 0, .int .i64 0] 40)).drew := ((Below.refl _ _).alloc (Nat.le_refl _) _).drew
          have cw60 := (hbW6.cell (p := ad.add (m0 * 6)) (by simp only [block_of_add]; exact hbl)).trans c0
          have cw61 := (hbW6.cell (p := ⟨(ad.add (m0 * 6)).block, (ad.add (m0 * 6)).off + 1, none⟩) (by simp only [block_of_add]; exact hbl)).trans c1
          have cw62 := (hbW6.cell (p := ⟨(ad.add (m0 * 6)).block, (ad.add (m0 * 6)).off + 2, none⟩) (by simp only [block_of_add]; exact hbl)).trans c2
          have cw63 := (hbW6.cell (p := ⟨(ad.add (m0 * 6)).block, (ad.add (m0 * 6)).off + 3, none⟩) (by simp only [block_of_add]; exact hbl)).trans c3
          have cw64 := (hbW6.cell (p := ⟨(ad.add (m0 * 6)).block, (ad.add (m0 * 6)).off + 4, none⟩) (by simp only [block_of_add]; exact hbl)).trans c4
          have cw65 := (hbW6.cell (p := ⟨(ad.add (m0 * 6)).block, (ad.add (m0 * 6)).off + 5, none⟩) (by simp only [block_of_add]; exact hbl)).trans c5
          have dw60 := (hbW6.cell (p := ad4.add (m4 * 6)) (by simp only [block_of_add]; exact hbl4)).trans d0
          have dw61 := (hbW6.cell (p := ⟨(ad4.add (m4 * 6)).block, (ad4.add (m4 * 6)).off + 1, none⟩) (by simp only [block_of_add]; exact hbl4)).trans d1
          have dw62 := (hbW6.cell (p := ⟨(ad4.add (m4 * 6)).block, (ad4.add (m4 * 6)).off + 2, none⟩) (by simp only [block_of_add]; exact hbl4)).trans d2
          have dw63 := (hbW6.cell (p := ⟨(ad4.add (m4 * 6)).block, (ad4.add (m4 * 6)).off + 3, none⟩) (by simp only [block_of_add]; exact hbl4)).trans d3
          have dw64 := (hbW6.cell (p := ⟨(ad4.add (m4 * 6)).block, (ad4.add (m4 * 6)).off + 4, none⟩) (by simp only [block_of_add]; exact hbl4)).trans d4
          have dw65 := (hbW6.cell (p := ⟨(ad4.add (m4 * 6)).block, (ad4.add (m4 * 6)).off + 5, none⟩) (by simp only [block_of_add]; exact hbl4)).trans d5
          have hbW7 : Below wr.heap.size wr (wr.alloc (.cells #[.int .i64 k', .string nm', .int .i64 v', .string d', .int .i64 a', .int .i64 b'] 40)).drew := ((Below.refl _ _).alloc (Nat.le_refl _) _).drew
          have cw70 := (hbW7.cell (p := ad.add (m0 * 6)) (by simp only [block_of_add]; exact hbl)).trans c0
          have cw71 := (hbW7.cell (p := ⟨(ad.add (m0 * 6)).block, (ad.add (m0 * 6)).off + 1, none⟩) (by simp only [block_of_add]; exact hbl)).trans c1
          have cw72 := (hbW7.cell (p := ⟨(ad.add (m0 * 6)).block, (ad.add (m0 * 6)).off + 2, none⟩) (by simp only [block_of_add]; exact hbl)).trans c2
          have cw73 := (hbW7.cell (p := ⟨(ad.add (m0 * 6)).block, (ad.add (m0 * 6)).off + 3, none⟩) (by simp only [block_of_add]; exact hbl)).trans c3
          have cw74 := (hbW7.cell (p := ⟨(ad.add (m0 * 6)).block, (ad.add (m0 * 6)).off + 4, none⟩) (by simp only [block_of_add]; exact hbl)).trans c4
          have cw75 := (hbW7.cell (p := ⟨(ad.add (m0 * 6)).block, (ad.add (m0 * 6)).off + 5, none⟩) (by simp only [block_of_add]; exact hbl)).trans c5
          have hbW8 : Below wr.heap.size wr (wr.alloc (.cells #[.int .i64 k', .string nm', .int .i64 v', .string d', .int .i64 a, .int .i64 b] 40)).drew := ((Below.refl _ _).alloc (Nat.le_refl _) _).drew
          have dw80 := (hbW8.cell (p := ad4.add (m4 * 6)) (by simp only [block_of_add]; exact hbl4)).trans d0
          have dw81 := (hbW8.cell (p := ⟨(ad4.add (m4 * 6)).block, (ad4.add (m4 * 6)).off + 1, none⟩) (by simp only [block_of_add]; exact hbl4)).trans d1
          have dw82 := (hbW8.cell (p := ⟨(ad4.add (m4 * 6)).block, (ad4.add (m4 * 6)).off + 2, none⟩) (by simp only [block_of_add]; exact hbl4)).trans d2
          have dw83 := (hbW8.cell (p := ⟨(ad4.add (m4 * 6)).block, (ad4.add (m4 * 6)).off + 3, none⟩) (by simp only [block_of_add]; exact hbl4)).trans d3
          have dw84 := (hbW8.cell (p := ⟨(ad4.add (m4 * 6)).block, (ad4.add (m4 * 6)).off + 4, none⟩) (by simp only [block_of_add]; exact hbl4)).trans d4
          have dw85 := (hbW8.cell (p := ⟨(ad4.add (m4 * 6)).block, (ad4.add (m4 * 6)).off + 5, none⟩) (by simp only [block_of_add]; exact hbl4)).trans d5
          have hbW9 : Below wr.heap.size wr (wr).drew := (Below.refl _ _).drew
          have cw90 := (hbW9.cell (p := ad.add (m0 * 6)) (by simp only [block_of_add]; exact hbl)).trans c0
          have cw91 := (hbW9.cell (p := ⟨(ad.add (m0 * 6)).block, (ad.add (m0 * 6)).off + 1, none⟩) (by simp only [block_of_add]; exact hbl)).trans c1
          have cw92 := (hbW9.cell (p := ⟨(ad.add (m0 * 6)).block, (ad.add (m0 * 6)).off + 2, none⟩) (by simp only [block_of_add]; exact hbl)).trans c2
          have cw93 := (hbW9.cell (p := ⟨(ad.add (m0 * 6)).block, (ad.add (m0 * 6)).off + 3, none⟩) (by simp only [block_of_add]; exact hbl)).trans c3
          have cw94 := (hbW9.cell (p := ⟨(ad.add (m0 * 6)).block, (ad.add (m0 * 6)).off + 4, none⟩) (by simp only [block_of_add]; exact hbl)).trans c4
          have cw95 := (hbW9.cell (p := ⟨(ad.add (m0 * 6)).block, (ad.add (m0 * 6)).off + 5, none⟩) (by simp only [block_of_add]; exact hbl)).trans c5
          have dw90 := (hbW9.cell (p := ad4.add (m4 * 6)) (by simp only [block_of_add]; exact hbl4)).trans d0
          have dw91 := (hbW9.cell (p := ⟨(ad4.add (m4 * 6)).block, (ad4.add (m4 * 6)).off + 1, none⟩) (by simp only [block_of_add]; exact hbl4)).trans d1
          have dw92 := (hbW9.cell (p := ⟨(ad4.add (m4 * 6)).block, (ad4.add (m4 * 6)).off + 2, none⟩) (by simp only [block_of_add]; exact hbl4)).trans d2
          have dw93 := (hbW9.cell (p := ⟨(ad4.add (m4 * 6)).block, (ad4.add (m4 * 6)).off + 3, none⟩) (by simp only [block_of_add]; exact hbl4)).trans d3
          have dw94 := (hbW9.cell (p := ⟨(ad4.add (m4 * 6)).block, (ad4.add (m4 * 6)).off + 4, none⟩) (by simp only [block_of_add]; exact hbl4)).trans d4
          have dw95 := (hbW9.cell (p := ⟨(ad4.add (m4 * 6)).block, (ad4.add (m4 * 6)).off + 5, none⟩) (by simp only [block_of_add]; exact hbl4)).trans d5
          go_upto_region 13 with fail
          go_region
          all_goals
            go_wp2_with (first
              | (go_at_call 7
                 refine (HW.out _).mono ?_
                 rintro e w2 ⟨rfl, hb2⟩))
            go_ret
            exact ⟨rfl, ((hb3.alloc hb3.size _).alloc (by have := hb3.size; simp; omega) _).drew.trans (hb2.mono (by have := hb3.size; simp; omega))⟩
end Go.Proofs.Ytdggnakjfcmnmaa.Proof
/-
  The contracts of the program's fitsNeed, fitsJoin and Check: which steps, and which proofs, may be. Condition: names of at most 1,000,000,000 bytes.
-/
namespace Go.Proofs.Ytdggnakjfcmnmaa.Proof
open Go Go.RowKit Go.Lib Go.Proofs.Ytdggnakjfcmnmaa.Need
open Go.Proofs.Ytdggnakjfcmnmaa.Label (runes fitL fit_any)
set_option linter.unusedVariables false
set_option linter.unusedSimpArgs false
def needPf (s : Sp) : Bool := if s.kind = 3 then fitL (runes s.dest 0) && Pick.verOk s.ver else decide (s.dest = ByteArray.empty) && decide (s.ver = 0)
def joinPf (s : Sp) (i : Nat) : Bool := if s.kind = 4 then decide (0 ≤ s.a ∧ s.a < i ∧ 0 ≤ s.b ∧ s.b < i) else decide (s.a = 0 ∧ s.b = 0)
theorem may_parts (s : Sp) (i : Nat) : mayS s i = (((decide (1 ≤ s.kind ∧ s.kind ≤ 4) && fitL (runes s.name 0)) && needPf s) && joinPf s i) := rfl
set_option maxHeartbeats 4000000 in
set_option maxRecDepth 100000 in
theorem fitsNeed_any (s : Sp) (w : World) (h2 : s.dest.size ≤ 1000000000) :
    Calls Try.prog 23 #[.agg #[.int .i64 s.kind, .string s.name, .int .i64 s.ver, .string s.dest, .int .i64 s.a, .int .i64 s.b]] w fun e w' => e = .returned (.bool (needPf s)) ∧ Below w.heap.size w w' := by
  obtain ⟨k, nm, v, d, a, b⟩ := s
  simp only [] at h2
  have HD := hide (fun (wx : World) => fit_any d wx (by omega))
  have HM : Hid (needPf ⟨k, nm, v, d, a, b⟩ = (if k = 3 then fitL (runes d 0) && Pick.verOk v else decide (d = ByteArray.empty) && decide (v = 0))) := hide rfl
  generalize needPf ⟨k, nm, v, d, a, b⟩ = M at *
  generalize fitL (runes d 0) = z at *
  clear h2
  go_enter Try.func23, Try.ntmps23
  by_cases hk3 : k = 3
  · have hk31 : (k == 3) = true := beq_iff_eq.2 hk3
    by_cases hv : 0 ≤ v
    · by_cases hv2 : v < 1000000000
      · have hvv : Pick.verOk v = true := by unfold Pick.verOk; simp; omega
        have E : Hid (M = z) := hide (by rw [HM.out]; simp [hk3, hvv])
        clear HM
        try clear hd
        try clear hk3
        try clear hv0
        go_wp2_with (first
          | (go_at_call 22
             refine (HD.out _).mono ?_
             rintro e w2 ⟨rfl, hb2⟩
             have hbe := (alloc_b w (.cells #[.int .i64 k, .string nm, .int .i64 v, .string d, .int .i64 a, .int .i64 b] 40)).trans (hb2.mono (by simp))))
        go_ret
        exact ⟨by rw [E.out]; rfl, by first | exact hbe | exact alloc_b _ _⟩
      · have hvv : Pick.verOk v = false := by unfold Pick.verOk; simp; omega
        have E : Hid (M = false) := hide (by rw [HM.out]; simp [hk3, hvv])
        clear HM
        try clear hd
        try clear hk3
        try clear hv0
        go_wp2_with (first
          | (go_at_call 22
             refine (HD.out _).mono ?_
             rintro e w2 ⟨rfl, hb2⟩
             have hbe := (alloc_b w (.cells #[.int .i64 k, .string nm, .int .i64 v, .string d, .int .i64 a, .int .i64 b] 40)).trans (hb2.mono (by simp))))
        go_ret
        exact ⟨by rw [E.out]; rfl, by first | exact hbe | exact alloc_b _ _⟩
    · have hvv : Pick.verOk v = false := by unfold Pick.verOk; simp; omega
      have E : Hid (M = false) := hide (by rw [HM.out]; simp [hk3, hvv])
      clear HM
      try clear hd
      try clear hk3
      try clear hv0
      go_wp2_with (first
        | (go_at_call 22
           refine (HD.out _).mono ?_
           rintro e w2 ⟨rfl, hb2⟩
           have hbe := (alloc_b w (.cells #[.int .i64 k, .string nm, .int .i64 v, .string d, .int .i64 a, .int .i64 b] 40)).trans (hb2.mono (by simp))))
      go_ret
      exact ⟨by rw [E.out]; rfl, by first | exact hbe | exact alloc_b _ _⟩
  · have hk31 : (k == 3) = false := beq_eq_false_iff_ne.2 hk3
    by_cases hv0 : v = 0
    · have hv01 : (v == 0) = true := beq_iff_eq.2 hv0
      by_cases hd : d = ByteArray.empty
      · have hdd : d.toList.isEmpty = true := by rw [hd, empty_list]; rfl
        have E : Hid (M = true) := hide (by rw [HM.out]; simp [hk3, hv0, hd])
        clear HM
        try clear hd
        try clear hk3
        try clear hv0
        go_wp2_with (first
          | (go_at_call 22
             refine (HD.out _).mono ?_
             rintro e w2 ⟨rfl, hb2⟩
             have hbe := (alloc_b w (.cells #[.int .i64 k, .string nm, .int .i64 v, .string d, .int .i64 a, .int .i64 b] 40)).trans (hb2.mono (by simp))))
        go_ret
        exact ⟨by rw [E.out]; rfl, by first | exact hbe | exact alloc_b _ _⟩
      · have hdd : d.toList.isEmpty = false := by
          cases g : d.toList with
          | nil => exact absurd (eq_empty g) hd
          | cons _ _ => rfl
        have E : Hid (M = false) := hide (by rw [HM.out]; simp [hk3, hd])
        clear HM
        try clear hd
        try clear hk3
        try clear hv0
        go_wp2_with (first
          | (go_at_call 22
             refine (HD.out _).mono ?_
             rintro e w2 ⟨rfl, hb2⟩
             have hbe := (alloc_b w (.cells #[.int .i64 k, .string nm, .int .i64 v, .string d, .int .i64 a, .int .i64 b] 40)).trans (hb2.mono (by simp))))
        go_ret
        exact ⟨by rw [E.out]; rfl, by first | exact hbe | exact alloc_b _ _⟩
    · have hv01 : (v == 0) = false := beq_eq_false_iff_ne.2 hv0
      have E : Hid (M = false) := hide (by rw [HM.out]; simp [hk3, hv0])
      clear HM
      try clear hd
      try clear hk3
      try clear hv0
      go_wp2_with (first
        | (go_at_call 22
           refine (HD.out _).mono ?_
           rintro e w2 ⟨rfl, hb2⟩
           have hbe := (alloc_b w (.cells #[.int .i64 k, .string nm, .int .i64 v, .string d, .int .i64 a, .int .i64 b] 40)).trans (hb2.mono (by simp))))
      go_ret
      exact ⟨by rw [E.out]; rfl, by first | exact hbe | exact alloc_b _ _⟩
set_option maxHeartbeats 4000000 in
set_option maxRecDepth 100000 in
theorem fitsJoin_any (s : Sp) (i : Nat) (w : World) :
    Calls Try.prog 24 #[.agg #[.int .i64 s.kind, .string s.name, .int .i64 s.ver, .string s.dest, .int .i64 s.a, .int .i64 s.b], .int .i64 (i : Int)] w fun e w' => e = .returned (.bool (joinPf s i)) ∧ Below w.heap.size w w' := by
  obtain ⟨k, nm, v, d, a, b⟩ := s
  have HM : Hid (joinPf ⟨k, nm, v, d, a, b⟩ i = (if k = 4 then decide (0 ≤ a ∧ a < i ∧ 0 ≤ b ∧ b < i) else decide (a = 0 ∧ b = 0))) := hide rfl
  generalize joinPf ⟨k, nm, v, d, a, b⟩ i = M at *
  go_enter Try.func24, Try.ntmps24
  by_cases hk4 : k = 4
  · have hk41 : (k == 4) = true := beq_iff_eq.2 hk4
    by_cases ia : 0 ≤ a
    · by_cases ia2 : a < (i : Int)
      · by_cases ib : 0 ≤ b
        · by_cases ib2 : b < (i : Int)
          · have E : Hid (M = true) := hide (by rw [HM.out]; simp [hk4, ia, ia2, ib, ib2])
            clear HM
            try clear hn
            try clear hk4
            try clear ha
            try clear hb
            go_wp2
            go_ret
            exact ⟨by rw [E.out]; rfl, alloc_b _ _⟩
          · have hn : ¬ (0 ≤ a ∧ a < (i : Int) ∧ 0 ≤ b ∧ b < (i : Int)) := by omega
            have E : Hid (M = false) := hide (by rw [HM.out]; simp [hk4, hn])
            clear HM
            try clear hn
            try clear hk4
            try clear ha
            try clear hb
            go_wp2
            go_ret
            exact ⟨by rw [E.out]; rfl, alloc_b _ _⟩
        · have hn : ¬ (0 ≤ a ∧ a < (i : Int) ∧ 0 ≤ b ∧ b < (i : Int)) := by omega
          have E : Hid (M = false) := hide (by rw [HM.out]; simp [hk4, hn])
          clear HM
          try clear hn
          try clear hk4
          try clear ha
          try clear hb
          go_wp2
          go_ret
          exact ⟨by rw [E.out]; rfl, alloc_b _ _⟩
      · have hn : ¬ (0 ≤ a ∧ a < (i : Int) ∧ 0 ≤ b ∧ b < (i : Int)) := by omega
        have E : Hid (M = false) := hide (by rw [HM.out]; simp [hk4, hn])
        clear HM
        try clear hn
        try clear hk4
        try clear ha
        try clear hb
        go_wp2
        go_ret
        exact ⟨by rw [E.out]; rfl, alloc_b _ _⟩
    · have hn : ¬ (0 ≤ a ∧ a < (i : Int) ∧ 0 ≤ b ∧ b < (i : Int)) := by omega
      have E : Hid (M = false) := hide (by rw [HM.out]; simp [hk4, hn])
      clear HM
      try clear hn
      try clear hk4
      try clear ha
      try clear hb
      go_wp2
      go_ret
      exact ⟨by rw [E.out]; rfl, alloc_b _ _⟩
  · have hk41 : (k == 4) = false := beq_eq_false_iff_ne.2 hk4
    by_cases ha : a = 0
    · have ha1 : (a == 0) = true := beq_iff_eq.2 ha
      by_cases hb : b = 0
      · have hb1 : (b == 0) = true := beq_iff_eq.2 hb
        have E : Hid (M = true) := hide (by rw [HM.out]; simp [hk4, ha, hb])
        clear HM
        try clear hn
        try clear hk4
        try clear ha
        try clear hb
        go_wp2
        go_ret
        exact ⟨by rw [E.out]; rfl, alloc_b _ _⟩
      · have hb1 : (b == 0) = false := beq_eq_false_iff_ne.2 hb
        have E : Hid (M = false) := hide (by rw [HM.out]; simp [hk4, ha, hb])
        clear HM
        try clear hn
        try clear hk4
        try clear ha
        try clear hb
        go_wp2
        go_ret
        exact ⟨by rw [E.out]; rfl, alloc_b _ _⟩
    · have ha1 : (a == 0) = false := beq_eq_false_iff_ne.2 ha
      have E : Hid (M = false) := hide (by rw [HM.out]; simp [hk4, ha])
      clear HM
      try clear hn
      try clear hk4
      try clear ha
      try clear hb
      go_wp2
      go_ret
      exact ⟨by rw [E.out]; rfl, alloc_b _ _⟩
set_option maxHeartbeats 8000000 in
set_option maxRecDepth 100000 in
theorem checkPf_any (l : List Sp) (A : Option Addr) (n c : Nat) (w : World) (h : PfOn w A n l) (hn : n ≤ 1000000000) (hl : NamesS l) :
    Calls Try.prog 8 #[.slice A n c] w fun e w' => e = .returned (.bool (okPf l)) ∧ Below w.heap.size w w' := by
  have hlen := h.len
  by_cases hlong : 1048576 < n
  · have E := hide (okPf_long (l := l) (by omega))
    generalize okPf l = F at *
    have hlong2 : (1048576 : Int) < (n : Int) := by omega
    have hlong3 : ¬ (n : Int) < 1 := by omega
    clear hlen h hl
    go_enter Try.func8, Try.ntmps8
    go_wp2
    go_ret
    exact ⟨by rw [E.out]; rfl, Below.refl _ _⟩
  · by_cases h0 : n < 1
    · have E : Hid (okPf l = false) := hide (by
        have : l = [] := List.length_eq_zero_iff.1 (by omega)
        rw [this]; rfl)
      generalize okPf l = F at *
      have hlong3 : (n : Int) < 1 := by omega
      clear hlen h hl
      go_enter Try.func8, Try.ntmps8
      go_wp2
      go_ret
      exact ⟨by rw [E.out]; rfl, Below.refl _ _⟩
    · have Hall := hide (fun (h2 : OkSteps l) => okPf_of (l := l) (by omega) h2 (by omega))
      have Hnot := hide (fun (i : Nat) (s : Sp) (hs : l[i]? = some s) (hm : mayS s i = false) => okPf_not hs hm)
      generalize okPf l = F at *
      have hlong2 : ¬ (1048576 : Int) < (n : Int) := by omega
      have hlong3 : ¬ (n : Int) < 1 := by omega
      have Hlen := hide hlen
      clear hlen
      go_enter Try.func8, Try.ntmps8
      go_wp2
      go_loopw [15] (fun v wr => ∃ (i : Nat), i ≤ n ∧ v = .int .i64 (i : Int) ∧ Hid (∀ (j : Nat) (s : Sp), j < i → l[j]? = some s → mayS s j = true) ∧ Below w.heap.size w wr) (fun v _ => n - (RowKit.intOf v).toNat)
      case atStart => exact ⟨0, by omega, rfl, hide (fun j s hj => by omega), Below.refl _ _⟩
      case round =>
        obtain ⟨i, hi, rfl, hf, hb⟩ := hrel
        have hbs := hb.size
        by_cases hlt : i < n
        · obtain ⟨ad, q, rfl, hbl, hx, c0, c1, c2, c3, c4, c5⟩ := PfIn.at_ (PfIn.below h hb) hlt
          have hq := hl q (List.mem_of_getElem? hx)
          have HN := hide (fun (wx : World) => fit_any q.name wx (by omega))
          have HE := hide (fun (wx : World) => fitsNeed_any q wx hq.2)
          have HJ := hide (fun (wx : World) => fitsJoin_any q i wx)
          have HM := hide (may_parts q i)
          have Hn := hide (Hnot.out i q hx)
          have Hy : Hid (mayS q i = true → ∀ (j : Nat) (s : Sp), j < i + 1 → l[j]? = some s → mayS s j = true) := hide (fun hm j s hj hs => by
            by_cases e : j = i
            · subst e
              rw [hx] at hs
              injection hs with hs
              subst hs
              exact hm
            · exact hf.out j s (by omega) hs)
          generalize mayS q i = m at *
          generalize needPf q = u at *
          generalize joinPf q i = x at *
          obtain ⟨k, nm, v, d, a, b⟩ := q
          simp only [] at c0 c1 c2 c3 c4 c5 HN HE HJ HM
          generalize fitL (runes nm 0) = y at *
          have hi1 : (0 : Int) ≤ (i : Int) := by omega
          have hi2 : (i : Int) < (n : Int) := by omega
          clear hx hq h
          by_cases hk1 : k < 1
          · have hk : ¬ (1 ≤ k ∧ k ≤ 4) := by omega
            have E : Hid (F = false) := hide (Hn.out (by rw [HM.out]; simp [hk]))
            clear Hn Hy HM hf Hall Hnot hl
            try clear hk
            go_wp2_with (first
              | (go_at_call 22
                 refine (HN.out _).mono ?_
                 rintro e w1 ⟨rfl, hb1⟩
                 have B1 := (Blk.new wr 40 #[.int .i64 k, .string nm, .int .i64 v, .string d, .int .i64 a, .int .i64 b]).below hb1 (by simp)
                 have hbe := (alloc_b wr (.cells #[.int .i64 k, .string nm, .int .i64 v, .string d, .int .i64 a, .int .i64 b] 40)).trans (hb1.mono (by simp))
                 have p0 := (B1.cell 0).trans (show (#[Value.int .i64 k, .string nm, .int .i64 v, .string d, .int .i64 a, .int .i64 b] : Array Value)[0]? = some (.int .i64 k) from rfl)
                 have p1 := (B1.cell 1).trans (show (#[Value.int .i64 k, .string nm, .int .i64 v, .string d, .int .i64 a, .int .i64 b] : Array Value)[1]? = some (.string nm) from rfl)
                 have p2 := (B1.cell 2).trans (show (#[Value.int .i64 k, .string nm, .int .i64 v, .string d, .int .i64 a, .int .i64 b] : Array Value)[2]? = some (.int .i64 v) from rfl)
                 have p3 := (B1.cell 3).trans (show (#[Value.int .i64 k, .string nm, .int .i64 v, .string d, .int .i64 a, .int .i64 b] : Array Value)[3]? = some (.string d) from rfl)
                 have p4 := (B1.cell 4).trans (show (#[Value.int .i64 k, .string nm, .int .i64 v, .string d, .int .i64 a, .int .i64 b] : Array Value)[4]? = some (.int .i64 a) from rfl)
                 have p5 := (B1.cell 5).trans (show (#[Value.int .i64 k, .string nm, .int .i64 v, .string d, .int .i64 a, .int .i64 b] : Array Value)[5]? = some (.int .i64 b) from rfl))
              | (go_at_call 23
                 clear p0 p1 p2 p3 p4 p5
                 refine (HE.out _).mono ?_
                 rintro e w2 ⟨rfl, hb2⟩
                 have B2 := B1.below hb2 B1.lt
                 have hbe := hbe.trans (hb2.mono hbe.size)
                 have p0 := (B2.cell 0).trans (show (#[Value.int .i64 k, .string nm, .int .i64 v, .string d, .int .i64 a, .int .i64 b] : Array Value)[0]? = some (.int .i64 k) from rfl)
                 have p1 := (B2.cell 1).trans (show (#[Value.int .i64 k, .string nm, .int .i64 v, .string d, .int .i64 a, .int .i64 b] : Array Value)[1]? = some (.string nm) from rfl)
                 have p2 := (B2.cell 2).trans (show (#[Value.int .i64 k, .string nm, .int .i64 v, .string d, .int .i64 a, .int .i64 b] : Array Value)[2]? = some (.int .i64 v) from rfl)
                 have p3 := (B2.cell 3).trans (show (#[Value.int .i64 k, .string nm, .int .i64 v, .string d, .int .i64 a, .int .i64 b] : Array Value)[3]? = some (.string d) from rfl)
                 have p4 := (B2.cell 4).trans (show (#[Value.int .i64 k, .string nm, .int .i64 v, .string d, .int .i64 a, .int .i64 b] : Array Value)[4]? = some (.int .i64 a) from rfl)
                 have p5 := (B2.cell 5).trans (show (#[Value.int .i64 k, .string nm, .int .i64 v, .string d, .int .i64 a, .int .i64 b] : Array Value)[5]? = some (.int .i64 b) from rfl))
              | (go_at_call 24
                 refine (HJ.out _).mono ?_
                 rintro e w3 ⟨rfl, hb3⟩
                 have hbe := hbe.trans (hb3.mono hbe.size)))
            go_ret
            exact ⟨by rw [E.out]; rfl, hb.trans ((alloc_b _ _).mono hbs)⟩
          · by_cases hk2 : 4 < k
            · have hk : ¬ (1 ≤ k ∧ k ≤ 4) := by omega
              have E : Hid (F = false) := hide (Hn.out (by rw [HM.out]; simp [hk]))
              clear Hn Hy HM hf Hall Hnot hl
              try clear hk
              go_wp2_with (first
                | (go_at_call 22
                   refine (HN.out _).mono ?_
                   rintro e w1 ⟨rfl, hb1⟩
                   have B1 := (Blk.new wr 40 #[.int .i64 k, .string nm, .int .i64 v, .string d, .int .i64 a, .int .i64 b]).below hb1 (by simp)
                   have hbe := (alloc_b wr (.cells #[.int .i64 k, .string nm, .int .i64 v, .string d, .int .i64 a, .int .i64 b] 40)).trans (hb1.mono (by simp))
                   have p0 := (B1.cell 0).trans (show (#[Value.int .i64 k, .string nm, .int .i64 v, .string d, .int .i64 a, .int .i64 b] : Array Value)[0]? = some (.int .i64 k) from rfl)
                   have p1 := (B1.cell 1).trans (show (#[Value.int .i64 k, .string nm, .int .i64 v, .string d, .int .i64 a, .int .i64 b] : Array Value)[1]? = some (.string nm) from rfl)
                   have p2 := (B1.cell 2).trans (show (#[Value.int .i64 k, .string nm, .int .i64 v, .string d, .int .i64 a, .int .i64 b] : Array Value)[2]? = some (.int .i64 v) from rfl)
                   have p3 := (B1.cell 3).trans (show (#[Value.int .i64 k, .string nm, .int .i64 v, .string d, .int .i64 a, .int .i64 b] : Array Value)[3]? = some (.string d) from rfl)
                   have p4 := (B1.cell 4).trans (show (#[Value.int .i64 k, .string nm, .int .i64 v, .string d, .int .i64 a, .int .i64 b] : Array Value)[4]? = some (.int .i64 a) from rfl)
                   have p5 := (B1.cell 5).trans (show (#[Value.int .i64 k, .string nm, .int .i64 v, .string d, .int .i64 a, .int .i64 b] : Array Value)[5]? = some (.int .i64 b) from rfl))
                | (go_at_call 23
                   clear p0 p1 p2 p3 p4 p5
                   refine (HE.out _).mono ?_
                   rintro e w2 ⟨rfl, hb2⟩
                   have B2 := B1.below hb2 B1.lt
                   have hbe := hbe.trans (hb2.mono hbe.size)
                   have p0 := (B2.cell 0).trans (show (#[Value.int .i64 k, .string nm, .int .i64 v, .string d, .int .i64 a, .int .i64 b] : Array Value)[0]? = some (.int .i64 k) from rfl)
                   have p1 := (B2.cell 1).trans (show (#[Value.int .i64 k, .string nm, .int .i64 v, .string d, .int .i64 a, .int .i64 b] : Array Value)[1]? = some (.string nm) from rfl)
                   have p2 := (B2.cell 2).trans (show (#[Value.int .i64 k, .string nm, .int .i64 v, .string d, .int .i64 a, .int .i64 b] : Array Value)[2]? = some (.int .i64 v) from rfl)
                   have p3 := (B2.cell 3).trans (show (#[Value.int .i64 k, .string nm, .int .i64 v, .string d, .int .i64 a, .int .i64 b] : Array Value)[3]? = some (.string d) from rfl)
                   have p4 := (B2.cell 4).trans (show (#[Value.int .i64 k, .string nm, .int .i64 v, .string d, .int .i64 a, .int .i64 b] : Array Value)[4]? = some (.int .i64 a) from rfl)
                   have p5 := (B2.cell 5).trans (show (#[Value.int .i64 k, .string nm, .int .i64 v, .string d, .int .i64 a, .int .i64 b] : Array Value)[5]? = some (.int .i64 b) from rfl))
                | (go_at_call 24
                   refine (HJ.out _).mono ?_
                   rintro e w3 ⟨rfl, hb3⟩
                   have hbe := hbe.trans (hb3.mono hbe.size)))
              go_ret
              exact ⟨by rw [E.out]; rfl, hb.trans ((alloc_b _ _).mono hbs)⟩
            · have hk : 1 ≤ k ∧ k ≤ 4 := by omega
              cases y
              · have E : Hid (F = false) := hide (Hn.out (by rw [HM.out]; simp))
                clear Hn Hy HM hf Hall Hnot hl
                try clear hk
                go_wp2_with (first
                  | (go_at_call 22
                     refine (HN.out _).mono ?_
                     rintro e w1 ⟨rfl, hb1⟩
                     have B1 := (Blk.new wr 40 #[.int .i64 k, .string nm, .int .i64 v, .string d, .int .i64 a, .int .i64 b]).below hb1 (by simp)
                     have hbe := (alloc_b wr (.cells #[.int .i64 k, .string nm, .int .i64 v, .string d, .int .i64 a, .int .i64 b] 40)).trans (hb1.mono (by simp))
                     have p0 := (B1.cell 0).trans (show (#[Value.int .i64 k, .string nm, .int .i64 v, .string d, .int .i64 a, .int .i64 b] : Array Value)[0]? = some (.int .i64 k) from rfl)
                     have p1 := (B1.cell 1).trans (show (#[Value.int .i64 k, .string nm, .int .i64 v, .string d, .int .i64 a, .int .i64 b] : Array Value)[1]? = some (.string nm) from rfl)
                     have p2 := (B1.cell 2).trans (show (#[Value.int .i64 k, .string nm, .int .i64 v, .string d, .int .i64 a, .int .i64 b] : Array Value)[2]? = some (.int .i64 v) from rfl)
                     have p3 := (B1.cell 3).trans (show (#[Value.int .i64 k, .string nm, .int .i64 v, .string d, .int .i64 a, .int .i64 b] : Array Value)[3]? = some (.string d) from rfl)
                     have p4 := (B1.cell 4).trans (show (#[Value.int .i64 k, .string nm, .int .i64 v, .string d, .int .i64 a, .int .i64 b] : Array Value)[4]? = some (.int .i64 a) from rfl)
                     have p5 := (B1.cell 5).trans (show (#[Value.int .i64 k, .string nm, .int .i64 v, .string d, .int .i64 a, .int .i64 b] : Array Value)[5]? = some (.int .i64 b) from rfl))
                  | (go_at_call 23
                     clear p0 p1 p2 p3 p4 p5
                     refine (HE.out _).mono ?_
                     rintro e w2 ⟨rfl, hb2⟩
                     have B2 := B1.below hb2 B1.lt
                     have hbe := hbe.trans (hb2.mono hbe.size)
                     have p0 := (B2.cell 0).trans (show (#[Value.int .i64 k, .string nm, .int .i64 v, .string d, .int .i64 a, .int .i64 b] : Array Value)[0]? = some (.int .i64 k) from rfl)
                     have p1 := (B2.cell 1).trans (show (#[Value.int .i64 k, .string nm, .int .i64 v, .string d, .int .i64 a, .int .i64 b] : Array Value)[1]? = some (.string nm) from rfl)
                     have p2 := (B2.cell 2).trans (show (#[Value.int .i64 k, .string nm, .int .i64 v, .string d, .int .i64 a, .int .i64 b] : Array Value)[2]? = some (.int .i64 v) from rfl)
                     have p3 := (B2.cell 3).trans (show (#[Value.int .i64 k, .string nm, .int .i64 v, .string d, .int .i64 a, .int .i64 b] : Array Value)[3]? = some (.string d) from rfl)
                     have p4 := (B2.cell 4).trans (show (#[Value.int .i64 k, .string nm, .int .i64 v, .string d, .int .i64 a, .int .i64 b] : Array Value)[4]? = some (.int .i64 a) from rfl)
                     have p5 := (B2.cell 5).trans (show (#[Value.int .i64 k, .string nm, .int .i64 v, .string d, .int .i64 a, .int .i64 b] : Array Value)[5]? = some (.int .i64 b) from rfl))
                  | (go_at_call 24
                     refine (HJ.out _).mono ?_
                     rintro e w3 ⟨rfl, hb3⟩
                     have hbe := hbe.trans (hb3.mono hbe.size)))
                go_ret
                exact ⟨by rw [E.out]; rfl, hb.trans (hbe.mono hbs)⟩
              · cases u
                · have E : Hid (F = false) := hide (Hn.out (by rw [HM.out]; simp))
                  clear Hn Hy HM hf Hall Hnot hl
                  try clear hk
                  go_wp2_with (first
                    | (go_at_call 22
                       refine (HN.out _).mono ?_
                       rintro e w1 ⟨rfl, hb1⟩
                       have B1 := (Blk.new wr 40 #[.int .i64 k, .string nm, .int .i64 v, .string d, .int .i64 a, .int .i64 b]).below hb1 (by simp)
                       have hbe := (alloc_b wr (.cells #[.int .i64 k, .string nm, .int .i64 v, .string d, .int .i64 a, .int .i64 b] 40)).trans (hb1.mono (by simp))
                       have p0 := (B1.cell 0).trans (show (#[Value.int .i64 k, .string nm, .int .i64 v, .string d, .int .i64 a, .int .i64 b] : Array Value)[0]? = some (.int .i64 k) from rfl)
                       have p1 := (B1.cell 1).trans (show (#[Value.int .i64 k, .string nm, .int .i64 v, .string d, .int .i64 a, .int .i64 b] : Array Value)[1]? = some (.string nm) from rfl)
                       have p2 := (B1.cell 2).trans (show (#[Value.int .i64 k, .string nm, .int .i64 v, .string d, .int .i64 a, .int .i64 b] : Array Value)[2]? = some (.int .i64 v) from rfl)
                       have p3 := (B1.cell 3).trans (show (#[Value.int .i64 k, .string nm, .int .i64 v, .string d, .int .i64 a, .int .i64 b] : Array Value)[3]? = some (.string d) from rfl)
                       have p4 := (B1.cell 4).trans (show (#[Value.int .i64 k, .string nm, .int .i64 v, .string d, .int .i64 a, .int .i64 b] : Array Value)[4]? = some (.int .i64 a) from rfl)
                       have p5 := (B1.cell 5).trans (show (#[Value.int .i64 k, .string nm, .int .i64 v, .string d, .int .i64 a, .int .i64 b] : Array Value)[5]? = some (.int .i64 b) from rfl))
                    | (go_at_call 23
                       clear p0 p1 p2 p3 p4 p5
                       refine (HE.out _).mono ?_
                       rintro e w2 ⟨rfl, hb2⟩
                       have B2 := B1.below hb2 B1.lt
                       have hbe := hbe.trans (hb2.mono hbe.size)
                       have p0 := (B2.cell 0).trans (show (#[Value.int .i64 k, .string nm, .int .i64 v, .string d, .int .i64 a, .int .i64 b] : Array Value)[0]? = some (.int .i64 k) from rfl)
                       have p1 := (B2.cell 1).trans (show (#[Value.int .i64 k, .string nm, .int .i64 v, .string d, .int .i64 a, .int .i64 b] : Array Value)[1]? = some (.string nm) from rfl)
                       have p2 := (B2.cell 2).trans (show (#[Value.int .i64 k, .string nm, .int .i64 v, .string d, .int .i64 a, .int .i64 b] : Array Value)[2]? = some (.int .i64 v) from rfl)
                       have p3 := (B2.cell 3).trans (show (#[Value.int .i64 k, .string nm, .int .i64 v, .string d, .int .i64 a, .int .i64 b] : Array Value)[3]? = some (.string d) from rfl)
                       have p4 := (B2.cell 4).trans (show (#[Value.int .i64 k, .string nm, .int .i64 v, .string d, .int .i64 a, .int .i64 b] : Array Value)[4]? = some (.int .i64 a) from rfl)
                       have p5 := (B2.cell 5).trans (show (#[Value.int .i64 k, .string nm, .int .i64 v, .string d, .int .i64 a, .int .i64 b] : Array Value)[5]? = some (.int .i64 b) from rfl))
                    | (go_at_call 24
                       refine (HJ.out _).mono ?_
                       rintro e w3 ⟨rfl, hb3⟩
                       have hbe := hbe.trans (hb3.mono hbe.size)))
                  go_ret
                  exact ⟨by rw [E.out]; rfl, hb.trans (hbe.mono hbs)⟩
                · cases x
                  · have E : Hid (F = false) := hide (Hn.out (by rw [HM.out]; simp))
                    clear Hn Hy HM hf Hall Hnot hl
                    try clear hk
                    go_wp2_with (first
                      | (go_at_call 22
                         refine (HN.out _).mono ?_
                         rintro e w1 ⟨rfl, hb1⟩
                         have B1 := (Blk.new wr 40 #[.int .i64 k, .string nm, .int .i64 v, .string d, .int .i64 a, .int .i64 b]).below hb1 (by simp)
                         have hbe := (alloc_b wr (.cells #[.int .i64 k, .string nm, .int .i64 v, .string d, .int .i64 a, .int .i64 b] 40)).trans (hb1.mono (by simp))
                         have p0 := (B1.cell 0).trans (show (#[Value.int .i64 k, .string nm, .int .i64 v, .string d, .int .i64 a, .int .i64 b] : Array Value)[0]? = some (.int .i64 k) from rfl)
                         have p1 := (B1.cell 1).trans (show (#[Value.int .i64 k, .string nm, .int .i64 v, .string d, .int .i64 a, .int .i64 b] : Array Value)[1]? = some (.string nm) from rfl)
                         have p2 := (B1.cell 2).trans (show (#[Value.int .i64 k, .string nm, .int .i64 v, .string d, .int .i64 a, .int .i64 b] : Array Value)[2]? = some (.int .i64 v) from rfl)
                         have p3 := (B1.cell 3).trans (show (#[Value.int .i64 k, .string nm, .int .i64 v, .string d, .int .i64 a, .int .i64 b] : Array Value)[3]? = some (.string d) from rfl)
                         have p4 := (B1.cell 4).trans (show (#[Value.int .i64 k, .string nm, .int .i64 v, .string d, .int .i64 a, .int .i64 b] : Array Value)[4]? = some (.int .i64 a) from rfl)
                         have p5 := (B1.cell 5).trans (show (#[Value.int .i64 k, .string nm, .int .i64 v, .string d, .int .i64 a, .int .i64 b] : Array Value)[5]? = some (.int .i64 b) from rfl))
                      | (go_at_call 23
                         clear p0 p1 p2 p3 p4 p5
                         refine (HE.out _).mono ?_
                         rintro e w2 ⟨rfl, hb2⟩
                         have B2 := B1.below hb2 B1.lt
                         have hbe := hbe.trans (hb2.mono hbe.size)
                         have p0 := (B2.cell 0).trans (show (#[Value.int .i64 k, .string nm, .int .i64 v, .string d, .int .i64 a, .int .i64 b] : Array Value)[0]? = some (.int .i64 k) from rfl)
                         have p1 := (B2.cell 1).trans (show (#[Value.int .i64 k, .string nm, .int .i64 v, .string d, .int .i64 a, .int .i64 b] : Array Value)[1]? = some (.string nm) from rfl)
                         have p2 := (B2.cell 2).trans (show (#[Value.int .i64 k, .string nm, .int .i64 v, .string d, .int .i64 a, .int .i64 b] : Array Value)[2]? = some (.int .i64 v) from rfl)
                         have p3 := (B2.cell 3).trans (show (#[Value.int .i64 k, .string nm, .int .i64 v, .string d, .int .i64 a, .int .i64 b] : Array Value)[3]? = some (.string d) from rfl)
                         have p4 := (B2.cell 4).trans (show (#[Value.int .i64 k, .string nm, .int .i64 v, .string d, .int .i64 a, .int .i64 b] : Array Value)[4]? = some (.int .i64 a) from rfl)
                         have p5 := (B2.cell 5).trans (show (#[Value.int .i64 k, .string nm, .int .i64 v, .string d, .int .i64 a, .int .i64 b] : Array Value)[5]? = some (.int .i64 b) from rfl))
                      | (go_at_call 24
                         refine (HJ.out _).mono ?_
                         rintro e w3 ⟨rfl, hb3⟩
                         have hbe := hbe.trans (hb3.mono hbe.size)))
                    go_ret
                    exact ⟨by rw [E.out]; rfl, hb.trans (hbe.mono hbs)⟩
                  · have HY := hide (Hy.out (by rw [HM.out]; simp [hk]))
                    clear Hn Hy HM hf Hall Hnot hl hk
                    go_wp2_with (first
                      | (go_at_call 22
                         refine (HN.out _).mono ?_
                         rintro e w1 ⟨rfl, hb1⟩
                         have B1 := (Blk.new wr 40 #[.int .i64 k, .string nm, .int .i64 v, .string d, .int .i64 a, .int .i64 b]).below hb1 (by simp)
                         have hbe := (alloc_b wr (.cells #[.int .i64 k, .string nm, .int .i64 v, .string d, .int .i64 a, .int .i64 b] 40)).trans (hb1.mono (by simp))
                         have p0 := (B1.cell 0).trans (show (#[Value.int .i64 k, .string nm, .int .i64 v, .string d, .int .i64 a, .int .i64 b] : Array Value)[0]? = some (.int .i64 k) from rfl)
                         have p1 := (B1.cell 1).trans (show (#[Value.int .i64 k, .string nm, .int .i64 v, .string d, .int .i64 a, .int .i64 b] : Array Value)[1]? = some (.string nm) from rfl)
                         have p2 := (B1.cell 2).trans (show (#[Value.int .i64 k, .string nm, .int .i64 v, .string d, .int .i64 a, .int .i64 b] : Array Value)[2]? = some (.int .i64 v) from rfl)
                         have p3 := (B1.cell 3).trans (show (#[Value.int .i64 k, .string nm, .int .i64 v, .string d, .int .i64 a, .int .i64 b] : Array Value)[3]? = some (.string d) from rfl)
                         have p4 := (B1.cell 4).trans (show (#[Value.int .i64 k, .string nm, .int .i64 v, .string d, .int .i64 a, .int .i64 b] : Array Value)[4]? = some (.int .i64 a) from rfl)
                         have p5 := (B1.cell 5).trans (show (#[Value.int .i64 k, .string nm, .int .i64 v, .string d, .int .i64 a, .int .i64 b] : Array Value)[5]? = some (.int .i64 b) from rfl))
                      | (go_at_call 23
                         clear p0 p1 p2 p3 p4 p5
                         refine (HE.out _).mono ?_
                         rintro e w2 ⟨rfl, hb2⟩
                         have B2 := B1.below hb2 B1.lt
                         have hbe := hbe.trans (hb2.mono hbe.size)
                         have p0 := (B2.cell 0).trans (show (#[Value.int .i64 k, .string nm, .int .i64 v, .string d, .int .i64 a, .int .i64 b] : Array Value)[0]? = some (.int .i64 k) from rfl)
                         have p1 := (B2.cell 1).trans (show (#[Value.int .i64 k, .string nm, .int .i64 v, .string d, .int .i64 a, .int .i64 b] : Array Value)[1]? = some (.string nm) from rfl)
                         have p2 := (B2.cell 2).trans (show (#[Value.int .i64 k, .string nm, .int .i64 v, .string d, .int .i64 a, .int .i64 b] : Array Value)[2]? = some (.int .i64 v) from rfl)
                         have p3 := (B2.cell 3).trans (show (#[Value.int .i64 k, .string nm, .int .i64 v, .string d, .int .i64 a, .int .i64 b] : Array Value)[3]? = some (.string d) from rfl)
                         have p4 := (B2.cell 4).trans (show (#[Value.int .i64 k, .string nm, .int .i64 v, .string d, .int .i64 a, .int .i64 b] : Array Value)[4]? = some (.int .i64 a) from rfl)
                         have p5 := (B2.cell 5).trans (show (#[Value.int .i64 k, .string nm, .int .i64 v, .string d, .int .i64 a, .int .i64 b] : Array Value)[5]? = some (.int .i64 b) from rfl))
                      | (go_at_call 24
                         refine (HJ.out _).mono ?_
                         rintro e w3 ⟨rfl, hb3⟩
                         have hbe := hbe.trans (hb3.mono hbe.size)))
                    have hbz := hb.trans (hbe.mono hbs)
                    go_roundw
                    case rel => exact ⟨i + 1, by omega, by go_num, HY, hbz⟩
                    case measure => simp [RowKit.intOf]; omega
        · have E : Hid (F = true) := hide (Hall.out fun j s hs => hf.out j s (by have := (List.getElem?_eq_some_iff.1 hs).1; have := Hlen.out; omega) hs)
          clear hf Hall Hnot h hl
          go_wp2
          go_ret
          exact ⟨by rw [E.out]; rfl, hb⟩
theorem specCheckPf : SpecCheckPf := fun l A n c w h hn hl => checkPf_any l A n c w h hn hl
end Go.Proofs.Ytdggnakjfcmnmaa.Proof
/-
  The contract of the program's Same of proofs, over the library's Equal: whether two lists of steps are alike. Condition: the slices read as steps.
-/
namespace Go.Proofs.Ytdggnakjfcmnmaa.Proof
open Go Go.RowKit Go.Lib Go.Proofs.Ytdggnakjfcmnmaa.Need
set_option linter.unusedVariables false
set_option maxHeartbeats 2000000 in
set_option maxRecDepth 100000 in
theorem equalPf_any {B n c B' n' c' : Nat} {A A' : Option Addr} {l m : List Sp} (w : World) (h : PfIn w B A n l) (h' : PfIn w B' A' n' m) (hn : n ≤ 1000000001) (hn' : n' ≤ 1000000001) :
    Calls Try.prog 26 #[.slice A n c, .slice A' n' c'] w fun e w' => e = .returned (.bool (alikeP l m)) ∧ ∃ k, w' = w.drewN k := by
  have hl : l.length = n := h.len
  have hm : m.length = n' := h'.len
  have heq := eq_steps
  obtain ⟨r, hr⟩ : ∃ r, r = alikeP l m := ⟨_, rfl⟩
  rw [← hr]
  have Hr := hide hr
  clear hr
  by_cases hnn : n = n'
  · subst hnn
    go_enter Try.func26, Try.ntmps26
    go_wp2
    go_loopw [13] (fun v wr => ∃ (i : Nat), i ≤ n ∧ v = .int .i64 (i : Int) ∧ Hid (l.take i = m.take i) ∧ ∃ k, wr = w.drewN k) (fun v _ => n - (RowKit.intOf v).toNat)
    case atStart => exact ⟨0, by omega, rfl, hide rfl, 0, rfl⟩
    case round =>
      obtain ⟨i, hi, rfl, hf, k, rfl⟩ := hrel
      by_cases hlt : i < n
      · obtain ⟨ad, s, rfl, hbl, hx, c0, c1, c2, c3, c4, c5⟩ := PfIn.at_ h hlt
        obtain ⟨ad', t, rfl, hbl', hx', r0, r1, r2, r3, r4, r5⟩ := PfIn.at_ h' hlt
        have hsn := hide (@samepf_snoc l m i s t hf.out hx hx')
        have hne := hide (@samepf_ne l m i s t hx hx')
        have hsi := hide (samepf_iff s t)
        obtain ⟨x0, x1, x2, x3, x4, x5⟩ := s
        obtain ⟨y0, y1, y2, y3, y4, y5⟩ := t
        simp only [] at hsn hne hsi c0 c1 c2 c3 c4 c5 r0 r1 r2 r3 r4 r5
        clear hx hx' hf
        have hq := heq x0 x1 x2 x3 x4 x5 y0 y1 y2 y3 y4 y5
        clear heq
        generalize hb : samePf ⟨x0, x1, x2, x3, x4, x5⟩ ⟨y0, y1, y2, y3, y4, y5⟩ = b at *
        clear hb
        go_upto_region 6 with fail
        go_quiet (fail)
        cases b
        · go_wp2_with fail
          go_ret
          have e := hne.out (by intro e; have := hsi.out; rw [e] at this; simp at this)
          have e2 : r = false := by rw [Hr.out]; exact e
          exact ⟨by rw [e2]; rfl, _, World.drewN_drewN _ _ _⟩
        · go_wp2_with fail
          have e := hsn.out (by have := hsi.out; simpa using this)
          go_roundw
          case rel => exact ⟨i + 1, by omega, by go_num, e, _, rfl⟩
          case measure => simp [RowKit.intOf]; omega
      · have hi2 : i = n := by omega
        subst hi2
        have hq := hf.out
        rw [List.take_of_length_le (by omega), List.take_of_length_le (by omega)] at hq
        have e2 : r = true := by rw [Hr.out]; exact alikeP_yes hq
        have E2 := hide e2
        clear hf hq e2
        go_wp2
        go_ret
        exact ⟨by rw [E2.out]; rfl, _, rfl⟩
  · have e2 : r = false := by rw [Hr.out]; exact alikeP_no fun e => hnn (by rw [← hl, ← hm, e])
    have E2 := hide e2
    clear e2
    go_enter Try.func26, Try.ntmps26
    go_wp2
    go_ret
    exact ⟨by rw [E2.out]; rfl, 0, rfl⟩
theorem specSamePf : SpecSamePf := by
  intro l m A A' n c n' c' w h h' hn hn'
  have He := hide (@equalPf_any w.heap.size n c w.heap.size n' c' A A' l m w h h' (by omega) (by omega))
  generalize alikeP l m = r at *
  go_enter Try.func10, Try.ntmps10
  go_wp2_with (go_at_call 26; refine He.out.mono ?_; rintro e w1 ⟨rfl, k, rfl⟩)
  go_ret
  exact ⟨rfl, below_drewN (Below.refl _ _) k⟩
end Go.Proofs.Ytdggnakjfcmnmaa.Proof
/-
  The contracts of the program's kind and stand: how many marked steps stand ahead of each. Condition: no more steps than a proof may have.
-/
namespace Go.Proofs.Ytdggnakjfcmnmaa.Proof
open Go Go.RowKit Go.Lib
set_option linter.unusedVariables false
def SpecMarkPf : Prop := ∀ (l : List Sp) (A : Option Addr) (n c : Nat) (w : World), PfOn w A n l → OkSteps l → 1 ≤ n → n ≤ 1048576 →
  Calls Try.prog 27 #[.slice A n c] w fun e w' => e = .returned (.slice (some ⟨w.heap.size, 0, none⟩) n n) ∧ w'.rowIs w.heap.size 4 n (fun j => .bool (usedT l j)) ∧ Below w.heap.size w w'
theorem kindPf_any (b : Bool) (w : World) : Calls Try.prog 47 #[.bool b] w fun e w' => e = .returned (.int .i64 (if b = true then 1 else 0)) ∧ w = w' := by
  cases b <;>
  · go_enter Try.func47, Try.ntmps47
    go_wp2
    go_ret
    exact ⟨rfl, rfl⟩
set_option maxRecDepth 100000 in
set_option maxHeartbeats 4000000 in
theorem standPf_any (l : List Sp) (g n : Nat) (w : World) (hr : w.rowIs g 4 n (fun j => .bool (usedT l j))) (hn : n ≤ 1048576) :
    Calls Try.prog 28 #[.slice (some ⟨g, 0, none⟩) n n] w fun e w' => e = .returned (.slice (some ⟨w.heap.size, 0, none⟩) n n) ∧ w'.rowIs w.heap.size 3 n (fun j => .int .i64 (atT l j : Int)) ∧ Below w.heap.size w w' := by
  have hmk2 := run_make_row' (P := Try.prog) 46 3 (.int .i64 0) 8 Try.underlying46 (by kernel_rfl) rfl .i64 .i64 n (by omega) (by omega)
  have hglt := hr.lt
  have hrow2 := World.rowIs_made w (.int .i64 0) n 3
  have hbV := alloc_b w (.cells (madeCells #[.int .i64 0] n) 3)
  have HK := hide (fun (b : Bool) (wx : World) => kindPf_any b wx)
  go_enter Try.func28, Try.ntmps28
  go_wp2
  generalize w.alloc (.cells (madeCells #[.int .i64 0] n) 3) = V at *
  clear hmk2
  go_loopw [4, 12] (fun u v wx => ∃ (i : Nat) (At : Nat → Nat), i ≤ n ∧ u = .int .i64 (atT l i : Int) ∧ v = .int .i64 (i : Int) ∧ Hid (∀ j, j < i → At j = atT l j) ∧ wx.rowIs w.heap.size 3 n (fun j => .int .i64 (At j : Int)) ∧ Below w.heap.size w wx) (fun _ v _ => n - (RowKit.intOf v).toNat)
  case atStart => exact ⟨0, fun _ => 0, by omega, rfl, rfl, hide (fun j hj => by omega), hrow2, hbV⟩
  case round =>
    obtain ⟨i, At, hi, rfl, rfl, hAt, hats, hb⟩ := hrel
    clear hrow2 hbV
    by_cases hlt : i < n
    · have xu := (rowIs_below hr hb hglt).cell hlt
      have hle : atT l i ≤ i := by unfold atT; exact Nat.le_trans (List.length_filter_le _ _) (by simp)
      have HA9 := hide (at_row hAt.out (rfl : atT l i = atT l i))
      have Hsu := hide (at_succ (l := l) i)
      have xa := hats.cell hlt
      have fa := hats.frozen i
      have hat5 := (hats.set i (.int .i64 (atT l i : Int))).congr (fun j hj => at_cells At i (atT l i) j)
      have hb5 := hb.setCell (p := ⟨w.heap.size, i, none⟩) (by simp only []; omega) (.int .i64 (atT l i : Int))
      have j1 : (0 : Int) ≤ (i : Int) := by omega
      have j2 : (i : Int) < (n : Int) := by omega
      have HKi := hide (HK.out (usedT l i))
      clear hAt hats hb
      generalize usedT l i = u at *
      generalize hax : atT l i = ax at *
      clear hax
      go_wp2_with (first
        | (go_at_call 47
           refine (HKi.out _).mono ?_
           rintro e w2 ⟨rfl, rfl⟩))
      go_roundw
      case rel => exact ⟨i + 1, _, by omega, by rw [Hsu.out]; cases u <;> go_num, by go_num, HA9, hat5, hb5⟩
      case measure => simp [RowKit.intOf]; omega
    · have hi2 : i = n := by omega
      subst hi2
      have hat5 := hats.congr (g := fun j => .int .i64 (atT l j : Int)) (fun j hj => by rw [hAt.out j hj])
      clear hAt
      go_wp2
      go_ret
      exact ⟨rfl, hat5, hb⟩
end Go.Proofs.Ytdggnakjfcmnmaa.Proof
