/-
  The contracts of the program's Pack and of the document's own: they answer the plain mathematics' bytes. Condition: a name of at most a million bytes.
-/
import Derived.Test.YtbckpcofcgapdaaSealMath
import Derived.Test.YtbckpcofcgapdaaWireB
import Derived.Test.YtbckpcofcgapdaaStampOpen
import Derived.Test.YtbckpcofcgapdaaLabelFit
import Derived.Test.YtbckpcofcgapdaaLabelFitR
import Derived.Test.YtbckpcofcgapdaaVlqRef
namespace Go.Proofs.Ytbckpcofcgapdaa.Seal
open Go Go.RowKit Go.Lib Go.Proofs.Ytbckpcofcgapdaa.Wire Go.Proofs.Ytbckpcofcgapdaa.Grow
open Go.Proofs.Ytbckpcofcgapdaa.Label (runes fitL fit_any refFit_any)
open Go.Proofs.Ytbckpcofcgapdaa.Stamp (seal_ seal_any refSeal_any)
open Go.Proofs.Ytbckpcofcgapdaa.Vlq (text_new refText_any enc enc_length)
set_option linter.unusedVariables false
theorem slice_def5 (A : Option Addr) (n c : Nat) : Value.slice A n c ≠ undef := by intro h; cases h
/-- A callee that makes new bytes, as the walk of a region asks it. -/
theorem call_isB {f : FuncId} {args : Array Value} {w' : World} {B : Nat} {L : List UInt8} (hB : B ≤ w'.heap.size) (h : Calls Try.prog f args w' (MakesB w' L)) :
    Calls Try.prog f args w' fun e w'' => ∃ v, e = .returned v ∧ Below w'.heap.size w' w'' ∧ isB B L w'' v :=
  h.mono fun _ _ ⟨A, n, c, he, hn, hb⟩ => ⟨_, he, hb, A, n, c, rfl, hn.less hB⟩
theorem makes_none {w w' : World} (hb : Below w.heap.size w w') {L : List UInt8} (h : L = []) : MakesB w L (.returned (.slice none 0 0)) w' := by
  subst h
  exact ⟨none, 0, 0, rfl, ⟨rfl, Nat.le_refl _, own_nil _ _ _, Reads.none_⟩, hb⟩
set_option maxHeartbeats 1600000 in
set_option maxRecDepth 100000 in
theorem packYes_any (nm : ByteArray) (A : Option Addr) (n c : Nat) (bd : List UInt8) (w : World) (hf : fitL (runes nm 0) = true) (hn : n ≤ 8192) (hr : Reads w w.heap.size 1 A n (bcs bd)) :
    Calls Try.prog 8 #[.string nm, .slice A n c] w (MakesB w (packB nm bd)) := by
  have h24 := name_24 nm hf
  have hbd : bd.length = n := by have := hr.1; rw [bcs_length] at this; omega
  have HF := hide (fun (wx : World) => fit_any nm wx (by omega))
  rw [hf] at HF
  rw [packB_yes hf (by omega)]
  have hB := (bodyB_len nm bd hf).2
  rw [if_pos (by omega)] at hB
  have hT := textB_len nm h24
  have H1 := hide (fun (wx : World) => text_B nm wx h24)
  have H2 := hide (fun (A1 : Option Addr) (n1 c1 : Nat) (wx : World) (h1 : n1 = (textB nm).length) (hr1 : Reads wx wx.heap.size 1 A1 n1 (bcs (textB nm))) => text_new A1 n1 c1 (textB nm) (str bd) wx (bodyB nm bd) (by unfold bodyB; rfl) (by omega) (by rw [str_size]; omega) hr1)
  have H3 := hide (fun (A1 : Option Addr) (n1 c1 : Nat) (wx : World) (h1 : n1 = (bodyB nm bd).length) (hr1 : Reads wx wx.heap.size 1 A1 n1 (bcs (bodyB nm bd))) => seal_any A1 n1 c1 (bodyB nm bd) wx (by omega) hr1)
  generalize bodyB nm bd = BD at *
  generalize textB nm = TX at *
  clear hf hbd
  go_enter Try.func8, Try.ntmps8
  go_upto_region 3 with (first
    | (go_at_call 15
       refine (HF.out _).mono ?_
       rintro e w1 ⟨rfl, hb1⟩
       have hr1 := (hr.below hb1).more hb1.size
       have hcr := conv_reg (c := c) hr1))
  refine wp_region_grow [(14, isB w1.heap.size TX), (17, isB w1.heap.size BD), (18, isB w1.heap.size (seal_ BD))] [14, 17, 18]
    (by kernel_rfl) (by kernel_rfl) rfl (by kernel_rfl) (by kernel_rfl) ⟨isB_stable _ _, isB_stable _ _, isB_stable _ _, trivial⟩ ?_
  repeat (first
    | (refine lex_skip rfl ?_; simp only [Act.put, List.setIfInBounds_toArray, List.set_cons_zero, List.set_cons_succ])
    | (refine lex_quiet rfl rfl rfl (fun K hK => ?_); unfold Reg; go_big_quiet_op; refine hK _ ?_; clear hK K)
    | (refine lex_rel rfl rfl (fun w' hb hK => ?_) (fun v w' hb hv => ?_)
       · unfold grows
         go_simp
         first
           | (go_at_call 19
              obtain ⟨A4, n4, c4, e4, hN4⟩ := hK.at_ 17 rfl rfl (slice_def5 _ _ _)
              injection e4 with e4 e5 e6
              subst e4 e5 e6
              exact call_isB hb.size (H3.out _ _ _ w' hN4.1 hN4.2.2.2))
           | (go_at_call 20
              obtain ⟨A4, n4, c4, e4, hN4⟩ := hK.at_ 14 rfl rfl (slice_def5 _ _ _)
              injection e4 with e4 e5 e6
              subst e4 e5 e6
              exact call_isB hb.size (H2.out _ _ _ w' hN4.1 hN4.2.2.2))
           | (go_at_call 20
              exact call_isB hb.size (H1.out w'))
       (obtain ⟨A3, n3, c3, rfl, hn3⟩ := hv
        simp only [Act.put, List.setIfInBounds_toArray, List.set_cons_zero, List.set_cons_succ])))
  refine lex_nil (fun w9 hC9 hK9 => ?_)
  have hb9 := reg_iff.1 hC9
  obtain ⟨A4, n4, c4, e4, hN4⟩ := hK9 5 _ 18 _ rfl rfl rfl (slice_def5 _ _ _)
  injection e4 with e4 e5 e6
  subst e4 e5 e6
  go_wp2
  go_ret
  exact ⟨_, _, _, rfl, hN4.less hb1.size, hb1.trans (hb9.mono hb1.size)⟩
set_option maxHeartbeats 800000 in
theorem packNo_any (nm : ByteArray) (A : Option Addr) (n c : Nat) (bd : List UInt8) (w : World) (hs : nm.size ≤ 1000000) (h : fitL (runes nm 0) = true → 8192 < n) (hbd : bd.length = n) :
    Calls Try.prog 8 #[.string nm, .slice A n c] w (MakesB w (packB nm bd)) := by
  have e : packB nm bd = [] := packB_no (fun ⟨h1, h2⟩ => by have := h h1; omega)
  have HE := hide e
  clear e
  have HF := hide (fun (wx : World) => fit_any nm wx (by omega))
  cases hf : fitL (runes nm 0)
  · rw [hf] at HF
    clear h
    go_enter Try.func8, Try.ntmps8
    go_wp2_with (first
      | (go_at_call 15
         refine (HF.out _).mono ?_
         rintro e w1 ⟨rfl, hb1⟩))
    go_ret
    exact makes_none hb1 HE.out
  · rw [hf] at HF
    have h8 := h hf
    clear h
    go_enter Try.func8, Try.ntmps8
    go_wp2_with (first
      | (go_at_call 15
         refine (HF.out _).mono ?_
         rintro e w1 ⟨rfl, hb1⟩))
    go_ret
    exact makes_none hb1 HE.out
theorem pack_any (nm : ByteArray) (A : Option Addr) (n c : Nat) (bd : List UInt8) (w : World) (hs : nm.size ≤ 1000000) (hr : Reads w w.heap.size 1 A n (bcs bd)) :
    Calls Try.prog 8 #[.string nm, .slice A n c] w (MakesB w (packB nm bd)) := by
  have hbd : bd.length = n := by have := hr.1; rw [bcs_length] at this; omega
  by_cases h : fitL (runes nm 0) = true ∧ n ≤ 8192
  · exact packYes_any nm A n c bd w h.1 h.2 hr
  · exact packNo_any nm A n c bd w hs (fun h1 => by
      have : ¬ n ≤ 8192 := fun h2 => h ⟨h1, h2⟩
      omega) hbd
set_option maxHeartbeats 1600000 in
set_option maxRecDepth 100000 in
theorem refPack_any (nm : ByteArray) (bd : List UInt8) (w : World) (hs : nm.size ≤ 1000000) (hbd : bd.length ≤ 1000000) :
    Calls Try.prog 9 #[.string nm, .string (str bd)] w fun e w' => e = .returned (.string (str (packB nm bd))) ∧ Below w.heap.size w w' := by
  have HF := hide (fun (wx : World) => refFit_any nm wx (by omega))
  have hsz : (str bd).size = bd.length := str_size bd
  cases hf : fitL (runes nm 0)
  · rw [hf] at HF
    have HE := hide (packB_no (nm := nm) (bd := bd) (fun ⟨h1, _⟩ => by rw [hf] at h1; cases h1))
    go_enter Try.func9, Try.ntmps9
    go_wp2_with (first
      | (go_at_call 10
         refine (HF.out _).mono ?_
         rintro e w1 ⟨rfl, hb1⟩))
    go_ret
    exact ⟨by rw [HE.out]; rfl, hb1⟩
  · rw [hf] at HF
    by_cases h8 : bd.length ≤ 8192
    · have h24 := name_24 nm hf
      have hB := (bodyB_len nm bd hf).2
      rw [if_pos (by omega)] at hB
      have hT := textB_len nm h24
      have hle : (str bd).size ≤ 8192 := by omega
      have H1 := hide (fun (wx : World) => refText_any nm wx (by omega))
      have H2 := hide (fun (wx : World) => refText_any (str bd) wx (by omega))
      have e1 : enc nm.size ++ nm.data.toList = textB nm := rfl
      have e2 : enc (str bd).size ++ (str bd).data.toList = textB (str bd) := rfl
      rw [e1] at H1
      rw [e2] at H2
      have HA : Hid (str (textB nm) ++ str (textB (str bd)) = str (bodyB nm bd)) := hide (str_append _ _)
      have hB2 : (textB (str bd)).length ≤ 10000 := by
        have : (bodyB nm bd).length = (textB nm).length + (textB (str bd)).length := by unfold bodyB; rw [List.length_append]
        omega
      have hs1 : (str (textB nm)).size ≤ 10000 := by rw [str_size]; omega
      have hs2 : (str (textB (str bd))).size ≤ 10000 := by rw [str_size]; omega
      have H3 := hide (fun (wx : World) => refSeal_any (bodyB nm bd) wx (by omega))
      have HE := hide (packB_yes (nm := nm) (bd := bd) hf h8)
      generalize bodyB nm bd = BD at *
      generalize textB (str bd) = T2 at *
      generalize textB nm = T1 at *
      clear e1 e2 hf hB hT h24 h8 hbd hB2
      have Hsz := hide hsz
      clear hsz
      go_enter Try.func9, Try.ntmps9
      go_wp2_with (first
        | (go_at_call 10
           refine (HF.out _).mono ?_
           rintro e w1 ⟨rfl, hb1⟩)
        | (go_at_call 21
           first | rw [HA.out] | skip
           refine (H3.out _).mono ?_
           rintro e w4 ⟨rfl, hb4⟩
           have hw4 := hw3.trans (hb4.mono hw3.size))
        | (go_at_call 22
           have hh := hw2
           refine (H2.out _).mono ?_
           rintro e w3 ⟨rfl, hb3⟩
           have hw3 := hw2.trans (hb3.mono hw2.size))
        | (go_at_call 22
           refine (H1.out _).mono ?_
           rintro e w2 ⟨rfl, hb2⟩
           have hw2 := hb1.trans (hb2.mono hb1.size)))
      go_ret
      exact ⟨by rw [HE.out]; rfl, hw4⟩
    · have HE := hide (packB_no (nm := nm) (bd := bd) (fun ⟨_, h2⟩ => h8 h2))
      have hgt : 8192 < (str bd).size := by omega
      clear hsz h8
      go_enter Try.func9, Try.ntmps9
      go_wp2_with (first
        | (go_at_call 10
           refine (HF.out _).mono ?_
           rintro e w1 ⟨rfl, hb1⟩))
      go_ret
      exact ⟨by rw [HE.out]; rfl, hb1⟩
end Go.Proofs.Ytbckpcofcgapdaa.Seal
