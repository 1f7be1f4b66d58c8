/-
  The walk of the law SealPacks: it returns true, and leaves all memory that was there as it was. No condition.
-/
import Derived.Test.YtbckpcofcgapdaaSealAwake
namespace Go.Proofs.Ytbckpcofcgapdaa.Seal
open Go Go.RowKit Go.Lib Go.Proofs.Ytbckpcofcgapdaa.Wire Go.Proofs.Ytbckpcofcgapdaa.Grow
set_option linter.unusedVariables false
set_option maxHeartbeats 800000 in
set_option maxRecDepth 100000 in
theorem packs_skip (nm : ByteArray) (A1 : Option Addr) (n1 c1 : Nat) (A2 : Option Addr) (n2 c2 : Nat) (w : World) (h : 200 < nm.size ∨ 10000 < n1 ∨ 20000 < n2) :
    Calls Try.prog 3 #[.string nm, .slice A1 n1 c1, .slice A2 n2 c2] w fun e w' => e = .returned (.bool true) ∧ Below w.heap.size w w' := by
  by_cases h0 : 200 < nm.size
  · clear h
    go_enter Try.func3, Try.ntmps3
    go_wp2_with (first
      | (go_at_call 5
         refine (awakeS_any _).mono ?_
         rintro e w3 ⟨rfl, hb3⟩))
    go_ret
    exact ⟨rfl, hb3⟩
  · by_cases h1 : 10000 < n1
    · clear h
      go_enter Try.func3, Try.ntmps3
      go_wp2_with (first
        | (go_at_call 5
           refine (awakeS_any _).mono ?_
           rintro e w3 ⟨rfl, hb3⟩))
      go_ret
      exact ⟨rfl, hb3⟩
    · have h2 : 20000 < n2 := by omega
      clear h
      go_enter Try.func3, Try.ntmps3
      go_wp2_with (first
        | (go_at_call 5
           refine (awakeS_any _).mono ?_
           rintro e w3 ⟨rfl, hb3⟩))
      go_ret
      exact ⟨rfl, hb3⟩
set_option maxHeartbeats 1600000 in
set_option maxRecDepth 100000 in
theorem packs_walk (nm : ByteArray) (A1 : Option Addr) (n1 c1 : Nat) (bd : List UInt8) (A2 : Option Addr) (n2 c2 : Nat) (b : List UInt8) (w : World)
    (h0 : nm.size ≤ 200) (h1 : n1 ≤ 10000) (h2 : n2 ≤ 20000) (hc2 : n2 ≤ c2) (hr1 : Reads w w.heap.size 1 A1 n1 (bcs bd)) (hr2 : Reads w w.heap.size 1 A2 n2 (bcs b)) :
    Calls Try.prog 3 #[.string nm, .slice A1 n1 c1, .slice A2 n2 c2] w fun e w' => e = .returned (.bool true) ∧ Below w.heap.size w w' := by
  have hl1 : bd.length = n1 := by have := hr1.1; rw [bcs_length] at this; omega
  have hl2 : b.length = n2 := by have := hr2.1; rw [bcs_length] at this; omega
  have HO := hide (open_any A2 n2 c2 b w (by omega) hc2 hr2)
  have HR := hide (fun (wx : World) => refOpen_any b wx (by omega))
  have HP := hide (fun (wx : World) (h : Reads wx wx.heap.size 1 A1 n1 (bcs bd)) => pack_any nm A1 n1 c1 bd wx (by omega) h)
  have HQ := hide (fun (wx : World) => refPack_any nm bd wx (by omega) (by omega))
  unfold Opened at HO
  unfold OpenedD at HR
  have hst := str_toList
  clear hl1 hl2
  generalize errO b = ev at *
  generalize openB b = XY at *
  obtain ⟨X, Y⟩ := XY
  generalize packB nm bd = PK at *
  go_enter Try.func3, Try.ntmps3
  go_upto_region 5 with (first
    | (go_at_call 6
       refine HO.out.mono ?_
       rintro e w1 ⟨A3, n3, c3, rfl, hn3, hb1⟩
       have hcv0 := conv_of (c := c2) (hr2.below hb1))
    | (go_at_call 7
       refine (HR.out _).mono ?_
       rintro e w2 ⟨rfl, hb2⟩
       have hb2' : Below w.heap.size w w2 := hb1.trans (hb2.mono hb1.size)
       have hrA := (hr1.below hb2').more hb2'.size
       have hrB := (hn3.below hb2).2.2.2
       have hcr0 := conv_reg (c := c1) hrA
       have hcr1 := conv_reg (c := c3) hrB))
  clear hcv0
  refine wp_region_grow [(42, isB w2.heap.size PK), (47, isC (.string (str PK))), (66, isC (.bool true))] [42, 47, 66]
    (by kernel_rfl) (by kernel_rfl) rfl (by kernel_rfl) (by kernel_rfl) ⟨isB_stable _ _, isC_stable _, isC_stable _, trivial⟩ ?_
  repeat (first
    | (refine lex_skip rfl ?_; simp only [Act.put, List.setIfInBounds_toArray, List.set_cons_zero, List.set_cons_succ])
    | (refine lex_quiet rfl rfl rfl (fun K hK => ?_); unfold Reg; go_big_quiet_op; refine hK _ ?_; clear hK K)
    | (refine lex_convB rfl rfl rfl rfl rfl rfl ?_; simp only [Act.put, List.setIfInBounds_toArray, List.set_cons_zero, List.set_cons_succ])
    | (refine lex_rel rfl rfl (fun w' hb hK => ?_) (fun v w' hb hv => ?_)
       · unfold grows
         go_simp
         first
           | (go_at_call 8
              exact call_isB hb.size (HP.out w' ((hrA.below hb).more hb.size)))
           | (go_at_call 9
              exact call_isC (HQ.out w'))
           | (go_at_call 5
              exact call_isC (awakeS_any w'))
       first
         | (obtain rfl := hv
            simp only [Act.put, List.setIfInBounds_toArray, List.set_cons_zero, List.set_cons_succ])
         | (obtain ⟨A4, n4, c4, rfl, hn4⟩ := hv
            simp only [Act.put, List.setIfInBounds_toArray, List.set_cons_zero, List.set_cons_succ])))
  refine lex_nil (fun w9 hC9 _ => ?_)
  have hb9 := reg_iff.1 hC9
  go_wp2
  go_ret
  exact ⟨rfl, hb2'.trans (hb9.mono hb2'.size)⟩
end Go.Proofs.Ytbckpcofcgapdaa.Seal
