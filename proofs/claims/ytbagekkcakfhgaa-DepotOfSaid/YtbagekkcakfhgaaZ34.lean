/-
  Some texts of this claim, one behind the other: DepotOfW. What each proves, and its condition, stands at its head.
-/
import Derived.Test.YtbagekkcakfhgaaZ30
import Derived.Test.YtbagekkcakfhgaaZ32
import Derived.Test.YtbagekkcakfhgaaZ31
import Derived.Test.YtbagekkcakfhgaaZ16
import Derived.Test.YtbagekkcakfhgaaZ33
import Derived.Test.YtbagekkcakfhgaaZ15
/-
  The walk of DepotOf. Condition: the slice reads as manifests; lengths as a row bounds them.
-/
namespace Go.Proofs.Ytbagekkcakfhgaa.Depot
open Go Go.RowKit Go.Lib Go.Proofs.Ytbagekkcakfhgaa.Span Go.Proofs.Ytbagekkcakfhgaa.Need Go.Proofs.Ytbagekkcakfhgaa.Mani Go.Proofs.Ytbagekkcakfhgaa.Wire
open Go.Proofs.Ytbagekkcakfhgaa.Label (runes fitL refFit_any)
set_option linter.unusedVariables false
/-- What is told of the depot of manifests. -/
theorem of_facts {l : List Mn} {nm : ByteArray} (hl : ∀ m ∈ l, m.1.size ≤ 1000000000) (g : (ofE l).2 = true) (gf : fitL (runes nm 0) = true) :
    okE (ofE l).1 = true ∧ RisesE (ofE l).1 ∧ (∀ q ∈ (ofE l).1, q.1.size ≤ 1000000000 ∧ q.2.length ≤ 8192) ∧ (ofE l).1.length ≤ 24 ∧
    goodE nm (bodyE (ofE l).1 nm) = true ∧ relE nm (bodyE (ofE l).1 nm) = wantM l [] nm ∧ brokenE (ofE l).1 (ofE l).1 = [] := by
  obtain ⟨h1, h2, h3⟩ := ofE_ok g
  rw [h3]
  obtain ⟨h4, h5, h6⟩ := okE_parts h2
  obtain ⟨h7, h8⟩ := dep_rel h1 h5 gf
  exact ⟨h2, h5, fun q hq => ⟨depE_names hl q hq, (h6 q hq).2⟩, h4, h7, h8, dep_broken h1 h5⟩
set_option maxHeartbeats 4000000 in
set_option maxRecDepth 100000 in
theorem of_long (l : List Mn) (A : Option Addr) (n c : Nat) (nm : ByteArray) (w : World) (h : MnOn w A n l)
    (g : 30 < n ∨ 200 < nm.size) :
    Calls Try.prog 4 #[.slice A n c, .string nm] w fun e w' => e = .returned (.bool true) ∧ Below w.heap.size w w' := by
  have HW := hide (fun wx => awakeD_any wx)
  unfold Tells at HW
  by_cases h0 : 30 < n
  · have hz : (30 : Int) < (n : Int) := by omega
    clear h g
    have hbw : Below w.heap.size w w := Below.refl _ _
    go_enter Try.func4, Try.ntmps4
    go_wp2_with (first
      | (go_at_call 6
         refine (HW.out _).mono ?_
         rintro e wn ⟨rfl, hbx⟩
         have hbw := hbw.trans (hbx.mono hbw.size)))
    go_ret
    exact ⟨rfl, hbw⟩
  · have hz : ¬ (30 : Int) < (n : Int) := by omega
    have hz2 : (200 : Int) < (nm.size : Int) := by omega
    clear h g
    have hbw : Below w.heap.size w w := Below.refl _ _
    go_enter Try.func4, Try.ntmps4
    go_wp2_with (first
      | (go_at_call 6
         refine (HW.out _).mono ?_
         rintro e wn ⟨rfl, hbx⟩
         have hbw := hbw.trans (hbx.mono hbw.size)))
    go_ret
    exact ⟨rfl, hbw⟩
set_option maxHeartbeats 4000000 in
set_option maxRecDepth 100000 in
theorem of_large (l : List Mn) (A : Option Addr) (n c : Nat) (nm : ByteArray) (w : World) (h : MnOn w A n l)
    (g1 : ¬ 30 < n) (g2 : ¬ 200 < nm.size) (hq0 : ∀ m ∈ l, m.1.size ≤ maxLen ∧ m.2.length ≤ maxLen ∧ ∀ q ∈ m.2, q.2.length ≤ maxLen) (g3 : ∃ m ∈ l, largeM m.1 m.2 = true) :
    Calls Try.prog 4 #[.slice A n c, .string nm] w fun e w' => e = .returned (.bool true) ∧ Below w.heap.size w w' := by
  have HW := hide (fun wx => awakeD_any wx)
  unfold Tells at HW
  have g1z : ¬ (30 : Int) < (n : Int) := by omega
  have g2z : ¬ (200 : Int) < (nm.size : Int) := by omega
  have Hlen := hide h.len
  have hbw : Below w.heap.size w w := Below.refl _ _
  go_enter Try.func4, Try.ntmps4
  go_wp2
  go_loopw [5] (fun v wr => ∃ i : Nat, i ≤ n ∧ v = .int .i64 (i : Int) ∧ Hid (∀ q ∈ l.take i, largeM q.1 q.2 = false) ∧ Below w.heap.size w wr) (fun v _ => n - (RowKit.intOf v).toNat)
  case atStart => exact ⟨0, by omega, rfl, hide (fun q hq => by simp at hq), Below.refl _ _⟩
  case round =>
    clear hbw
    obtain ⟨i, hi, rfl, hf, hbw⟩ := hrel
    have hbs := hbw.size
    by_cases hlt : i < n
    · have hst := fun (q : Mn) (hx : l[i]? = some q) (hq : largeM q.1 q.2 = false) => show ∀ p ∈ l.take (i + 1), largeM p.1 p.2 = false from fun p hp => by
        rw [take_snoc' l i q hx, List.mem_append] at hp
        rcases hp with hp | hp
        · exact hf.out p hp
        · rw [List.mem_singleton.1 hp]; exact hq
      obtain ⟨ad, q, A', n', c', rfl, hbl, hx, hs, c1, c2⟩ := PIn.at_ (MnIn.below h hbw) hlt
      obtain ⟨hq1, hq2, hq3⟩ := hq0 q (List.mem_of_getElem? hx)
      have Hmem := hide (List.mem_of_getElem? hx)
      obtain ⟨x, r⟩ := q
      have hr : RlIn wr w.heap.size A' n' r := hs
      simp only [] at c1 c2 hq1 hq2 hq3
      have hrl := hr.len
      have HG := hide (largeM_any x r A' n' c' wr (RlIn.more hr hbs) hq3 (by unfold maxLen at hq2; omega) (by unfold maxLen at hq1; omega))
      unfold Tells at HG
      clear hs hr hrl
      have Hst := hide (hst _ hx)
      clear hx hf hst h g3 Hmem
      simp only [] at Hst
      cases hlg : largeM x r
      · rw [hlg] at HG
        have Hst2 := hide (Hst.out hlg)
        clear Hst hlg
        go_wp2_with (first
          | (go_at_call 18
             refine (HG.out).mono ?_
             rintro e wn ⟨rfl, hbx⟩
             have hbw := hbw.trans (hbx.mono hbw.size)))
        go_roundw
        case rel => exact ⟨i + 1, by omega, by go_num, Hst2, hbw⟩
        case measure => simp [RowKit.intOf]; omega
      · rw [hlg] at HG
        clear Hst hlg
        go_wp2_with (first
          | (go_at_call 6
             refine (HW.out _).mono ?_
             rintro e wn ⟨rfl, hbx⟩
             have hbw := hbw.trans (hbx.mono hbw.size))
          | (go_at_call 18
             refine (HG.out).mono ?_
             rintro e wn ⟨rfl, hbx⟩
             have hbw := hbw.trans (hbx.mono hbw.size)))
        go_ret
        exact ⟨rfl, hbw⟩
    · exfalso
      obtain ⟨m, hm, hg⟩ := g3
      have := hf.out m (by rw [List.take_of_length_le (by have := Hlen.out; omega)]; exact hm)
      rw [this] at hg
      cases hg
set_option maxHeartbeats 8000000 in
set_option maxRecDepth 100000 in
theorem of_main (l : List Mn) (A : Option Addr) (n c : Nat) (nm : ByteArray) (w : World) (h : MnOn w A n l)
    (g1 : ¬ 30 < n) (g2 : ¬ 200 < nm.size) (hq0 : ∀ m ∈ l, m.1.size ≤ maxLen ∧ m.2.length ≤ maxLen ∧ ∀ q ∈ m.2, q.2.length ≤ maxLen) (g3 : ∀ m ∈ l, largeM m.1 m.2 = false) :
    Calls Try.prog 4 #[.slice A n c, .string nm] w fun e w' => e = .returned (.bool true) ∧ Below w.heap.size w w' := by
  have HW := hide (fun wx => awakeD_any wx)
  unfold Tells at HW
  have g1z : ¬ (30 : Int) < (n : Int) := by omega
  have g2z : ¬ (200 : Int) < (nm.size : Int) := by omega
  have Hlen := hide h.len
  have hn30 : n ≤ 30 := by omega
  have hl : ∀ m ∈ l, m.1.size ≤ 1000000000 ∧ FineR m.2 := fun m hm => by
    have := fineR_of (g3 m hm)
    exact ⟨by omega, this.2⟩
  have HF := hide (fun (wx : World) => refFit_any nm wx (by omega))
  have HO := hide (fun (wx : World) (hbx : Below w.heap.size w wx) => of_any l A n c wx (h.on hbx) hl (by omega))
  have HO2 := hide (fun (wx : World) (hbx : Below w.heap.size w wx) => refOf_any l A n c wx (h.on hbx) hl (by omega))
  unfold Ofs at HO HO2
  have hdl : (ofE l).1.length ≤ 30 := by
    unfold ofE
    split
    · rw [depE_len, h.len]; exact hn30
    · simp
  have HS := hide (fun (wx : World) A3 n3 c3 A4 n4 c4 (h3 : EnOn wx A3 n3 (ofE l).1) (h4 : EnOn wx A4 n4 (ofE l).1) => sameD_yes (ofE l).1 A3 A4 n3 c3 n4 c4 wx h3 h4 (by have := PIn.len h3; omega))
  unfold Tells at HS
  have Hfa := hide (fun (g : (ofE l).2 = true) (gf : fitL (runes nm 0) = true) => of_facts (nm := nm) (fun m hm => (hl m hm).1) g gf)
  have Hwf := hide (wantM_fine (l := l) (fun m hm => (hl m hm).2) nm [] fineR_nil)
  have Hwd := hide (fun (i : Nat) (m : Mn) (r : List Rl) => @wantM_drop l r nm i m)
  have Hnot := hide (fun (m : Mn) (hm : m ∈ l) => g3 m hm)
  clear g3 hl hdl
  obtain ⟨M, hM⟩ : ∃ M, M = wantM l [] nm := ⟨_, rfl⟩
  rw [← hM] at Hfa Hwf
  have HM0 : Hid (wantM (l.drop 0) [] nm = M) := hide (by rw [hM]; rfl)
  clear hM
  generalize (ofE l).1 = d at *
  generalize (ofE l).2 = q at *
  generalize hy : fitL (runes nm 0) = y at *
  clear hy
  have hbw : Below w.heap.size w w := Below.refl _ _
  go_enter Try.func4, Try.ntmps4
  go_wp2
  go_loopw [5] (fun v wr => ∃ i : Nat, i ≤ n ∧ v = .int .i64 (i : Int) ∧ Below w.heap.size w wr) (fun v _ => n - (RowKit.intOf v).toNat)
  case atStart => exact ⟨0, by omega, rfl, Below.refl _ _⟩
  case round =>
    clear hbw
    obtain ⟨i, hi, rfl, hbw⟩ := hrel
    have hbs := hbw.size
    by_cases hlt : i < n
    · clear Hfa HO HO2 HS HF Hwf Hwd HM0
      obtain ⟨ad, q, A', n', c', rfl, hbl, hx, hs, c1, c2⟩ := PIn.at_ (MnIn.below h hbw) hlt
      obtain ⟨hq1, hq2, hq3⟩ := hq0 q (List.mem_of_getElem? hx)
      have Hmem := hide (List.mem_of_getElem? hx)
      obtain ⟨x, r⟩ := q
      have hr : RlIn wr w.heap.size A' n' r := hs
      simp only [] at c1 c2 hq1 hq2 hq3
      have hrl := hr.len
      have HG := hide (largeM_any x r A' n' c' wr (RlIn.more hr hbs) hq3 (by unfold maxLen at hq2; omega) (by unfold maxLen at hq1; omega))
      unfold Tells at HG
      clear hs hr hrl
      have hlg := Hnot.out _ Hmem.out
      simp only [] at hlg
      rw [hlg] at HG
      clear hx h hlg Hmem Hnot
      go_wp2_with (first
        | (go_at_call 18
           refine (HG.out).mono ?_
           rintro e wn ⟨rfl, hbx⟩
           have hbw := hbw.trans (hbx.mono hbw.size)))
      go_roundw
      case rel => exact ⟨i + 1, by omega, by go_num, hbw⟩
      case measure => simp [RowKit.intOf]; omega
    · have hi2 : i = n := by omega
      clear Hnot hlt
      subst hi2
      have e1 : (q != q) = false := bne_self_eq_false q
      go_upto_region 12 with (first
        | (go_at_call 21
           refine (HS.out _ _ _ _ _ _ _ h1 h2).mono ?_
           rintro e wn ⟨rfl, hbx⟩
           have h1 := h1.on hbx
           have hbw := hbw.trans (hbx.mono hbw.size))
        | (go_at_call 20
           refine (HO2.out _ hbw).mono ?_
           rintro e wn ⟨A2, n2, c2, rfl, h2, hbx⟩
           have h1 := h1.on hbx
           have hbw := hbw.trans (hbx.mono hbw.size))
        | (go_at_call 19
           refine (HO.out _ hbw).mono ?_
           rintro e wn ⟨A1, n1, c1, rfl, h1, hbx⟩
           have hbw := hbw.trans (hbx.mono hbw.size)))
      clear HO HO2 HS h2
      cases q
      · clear Hfa Hwf Hwd HM0 h1
        go_wp2_with (first
          | (go_at_call 6
             refine (HW.out _).mono ?_
             rintro e wn ⟨rfl, hbx⟩
             have hbw := hbw.trans (hbx.mono hbw.size)))
        go_ret
        exact ⟨rfl, hbw⟩
      · cases y
        · clear Hfa Hwf Hwd HM0 h1
          go_wp2_with (first
            | (go_at_call 6
               refine (HW.out _).mono ?_
               rintro e wn ⟨rfl, hbx⟩
               have hbw := hbw.trans (hbx.mono hbw.size))
            | (go_at_call 9
               refine (HF.out _).mono ?_
               rintro e wn ⟨rfl, hbx⟩
               have hbw := hbw.trans (hbx.mono hbw.size)))
          go_ret
          exact ⟨rfl, hbw⟩
        · obtain ⟨k1, k2, k3, k4, k5, k6, k7⟩ := Hfa.out (by first | rfl | trivial) (by first | rfl | trivial)
          have hn1 : n1 ≤ 24 := by have := PIn.len h1; omega
          have HMan := hide (fun (wx : World) (hx : EnOn wx A1 n1 d) => man_any nm d A1 n1 c1 wx hx k2 (fun p hp => (k3 p hp).2) (by omega) (by omega))
          unfold ManR at HMan
          rw [k5, k6] at HMan
          have HCh := hide (fun (wx : World) (hx : EnOn wx A1 n1 d) => checkD_any d A1 n1 c1 wx hx (fun p hp => by have := (k3 p hp).1; omega))
          unfold Tells at HCh
          rw [k1] at HCh
          have HBr := hide (fun (wx : World) (hx : EnOn wx A1 n1 d) => broken_any d A1 n1 c1 wx hx k2 k3 (by omega))
          unfold MakesT at HBr
          rw [k7] at HBr
          have HSm := hide (fun (wx : World) A3 n3 c3 A4 n4 c4 (h3 : RlOn wx A3 n3 M) (h4 : RlOn wx A4 n4 M) => refSameM_any nm nm M M A3 A4 n3 c3 n4 c4 wx h3 h4 Hwf.out Hwf.out)
          unfold Tells at HSm
          rw [decide_eq_true rfl, decide_eq_true rfl] at HSm
          clear k1 k2 k3 k4 k5 k6 k7 Hfa Hwf
          go_upto_region 15 with (first
            | (go_at_call 10
               refine (HMan.out _ h1A).mono ?_
               rintro e w3 ⟨A5, n5, c5, B5, rs5, rfl, h5, hbx⟩
               have h1 := h1A.on hbx
               have hbw3 := hbwA.trans (hbx.mono hbwA.size))
            | (go_at_call 9
               refine (HF.out _).mono ?_
               rintro e wn ⟨rfl, hbx⟩
               have h1A := h1.on hbx
               have hbwA := hbw.trans (hbx.mono hbw.size)))
          obtain ⟨W0, hW0⟩ : ∃ W, W = w3.alloc (.cells #[.string nm, .slice A5 n5 c5] 28) := ⟨_, rfl⟩
          have m0 : Blk W0 w3.heap.size 28 #[.string nm, .slice A5 n5 c5] := by rw [hW0]; exact Blk.new _ _ _
          have h5' : RlOn W0 A5 n5 M := by
            obtain ⟨Ax, cx, ex, _, hx⟩ := h5.told
            injection ex with ex1 ex2 ex3
            subst ex1
            rw [hW0]
            exact hx.on (alloc_b _)
          have h1' : EnOn W0 A1 n1 d := by rw [hW0]; exact h1.on (alloc_b _)
          have hbW : Below w.heap.size w W0 := by rw [hW0]; exact hbw3.alloc hbw3.size _
          have hbWs := hbW.size
          rw [← hW0]
          clear hW0 h5 h1 h1A hbw hbwA hbw3 HMan HF hbs
          go_wp2
          go_loopw [13] (fun v wx => ∃ (j : Nat) (A6 : Option Addr) (n6 c6 : Nat) (r : List Rl), j ≤ i ∧ v = .int .i64 (j : Int) ∧ Blk wx W0.heap.size 28 #[.string nm, .slice A6 n6 c6] ∧ RlIn wx w.heap.size A6 n6 r ∧ Hid (wantM (l.drop j) r nm = M) ∧ Below W0.heap.size W0 wx) (fun v _ => i - (RowKit.intOf v).toNat)
          case atStart => exact ⟨0, none, 0, 0, [], by omega, rfl, Blk.new _ _ _, RlIn.nil _ _ _, HM0, alloc_b _⟩
          case round =>
            obtain ⟨j, A6, n6, c6, r, hj, rfl, hB, hr6, hwd, hbx⟩ := hrel
            have hbw := hbW.trans (hbx.mono hbWs)
            have hbs := hbw.size
            have hbxs := hbx.size
            by_cases hlt : j < i
            · obtain ⟨ad, p, A', n', c', rfl, hbl, hx, hs, c1', c2'⟩ := PIn.at_ (MnIn.below h hbw) hlt
              have hd := (Hwd.out j p r hx).symm.trans hwd.out
              obtain ⟨x, r'⟩ := p
              have hr' : RlIn wr w.heap.size A' n' r' := hs
              simp only [] at c1' c2' hd
              have he := eq_names x nm
              clear hx hs hwd h h1' h5' HCh HBr HSm
              by_cases hxn : x = nm
              · subst hxn
                rw [if_pos rfl] at hd
                rw [decide_eq_true rfl] at he
                have Hd2 := hide hd
                clear hd
                have f0 := hB.frozen 0
                have f1 := hB.frozen 1
                have k0 := (hB.cell 0).trans (show (#[Value.string x, .slice A6 n6 c6] : Array Value)[0]? = some (.string x) from rfl)
                have k1 := (hB.cell 1).trans (show (#[Value.string x, .slice A6 n6 c6] : Array Value)[1]? = some (.slice A6 n6 c6) from rfl)
                go_wp2
                have hB2 := (hB.set_ 0 (.string x)).set_ 1 (.slice A' n' c')
                have hst : Below w.heap.size wr ((wr.setCell ⟨W0.heap.size, 0, none⟩ (.string x)).setCell ⟨W0.heap.size, 1, none⟩ (.slice A' n' c')) := set_two_below (Below.refl _ _) _ hbWs _ _
                go_roundw
                case rel => exact ⟨j + 1, A', n', c', r', by omega, by go_num, hB2, RlIn.below hr' hst, Hd2, set_two_below hbx _ (Nat.le_refl _) _ _⟩
                case measure => simp [RowKit.intOf]; omega
              · rw [if_neg hxn] at hd
                rw [decide_eq_false hxn] at he
                have Hd2 := hide hd
                clear hd hxn
                go_wp2
                go_roundw
                case rel => exact ⟨j + 1, A6, n6, c6, r, by omega, by go_num, hB, hr6, Hd2, hbx⟩
                case measure => simp [RowKit.intOf]; omega
            · have hj2 : j = i := by omega
              have hd := hwd.out
              rw [List.drop_of_length_le (by have := Hlen.out; omega)] at hd
              have hrM : r = M := hd
              subst hrM
              have h1x := h1'.on hbx
              have h5x := h5'.on hbx
              have h6x := RlIn.more hr6 hbs
              have m0x := m0.below hbx m0.lt
              clear hd hwd HM0 Hwd hr6 h1' h5' m0 h hj2 Hlen hj
              go_wp2_with (first
                | (go_at_call 6
                   refine (HW.out _).mono ?_
                   rintro e wn ⟨rfl, hbx⟩
                   have hbw := hbw.trans (hbx.mono hbw.size))
                | (go_at_call 16
                   refine (HBr.out _ h1z).mono ?_
                   rintro e wn ⟨A9, n9, c9, rfl, h9, hbz⟩
                   obtain rfl : n9 = 0 := h9.len.symm
                   have hbw := hbw.trans (hbz.mono hbw.size))
                | (go_at_call 14
                   refine (HSm.out _ _ _ _ _ _ _ h5y h6y).mono ?_
                   rintro e wn ⟨rfl, hbz⟩
                   have h1z := h1y.on hbz
                   have hbw := hbw.trans (hbz.mono hbw.size))
                | (go_at_call 7
                   refine (HCh.out _ h1x).mono ?_
                   rintro e wn ⟨rfl, hbz⟩
                   have h1y := h1x.on hbz
                   have h5y := h5x.on hbz
                   have h6y := RlOn.on h6x hbz
                   have m1y := m0x.below hbz m0x.lt
                   have hBy := hB.below hbz hB.lt
                   have k0 := (m1y.cell 0).trans (show (#[Value.string nm, .slice A5 n5 c5] : Array Value)[0]? = some (.string nm) from rfl)
                   have k1 := (m1y.cell 1).trans (show (#[Value.string nm, .slice A5 n5 c5] : Array Value)[1]? = some (.slice A5 n5 c5) from rfl)
                   have k2 := (hBy.cell 0).trans (show (#[Value.string nm, .slice A6 n6 c6] : Array Value)[0]? = some (.string nm) from rfl)
                   have k3 := (hBy.cell 1).trans (show (#[Value.string nm, .slice A6 n6 c6] : Array Value)[1]? = some (.slice A6 n6 c6) from rfl)
                   have hbw := hbw.trans (hbz.mono hbw.size)))
              go_ret
              exact ⟨rfl, hbw⟩
theorem of_walk (l : List Mn) (A : Option Addr) (n c : Nat) (nm : ByteArray) (w : World) (h : MnOn w A n l) (hq0 : ∀ m ∈ l, m.1.size ≤ maxLen ∧ m.2.length ≤ maxLen ∧ ∀ q ∈ m.2, q.2.length ≤ maxLen) :
    Calls Try.prog 4 #[.slice A n c, .string nm] w fun e w' => e = .returned (.bool true) ∧ Below w.heap.size w w' := by
  by_cases g : 30 < n ∨ 200 < nm.size
  · exact of_long l A n c nm w h g
  · by_cases g3 : ∃ m ∈ l, largeM m.1 m.2 = true
    · exact of_large l A n c nm w h (fun e => g (.inl e)) (fun e => g (.inr e)) hq0 g3
    · exact of_main l A n c nm w h (fun e => g (.inl e)) (fun e => g (.inr e)) hq0 (fun m hm => by
        cases hg : largeM m.1 m.2 with
        | false => rfl
        | true => exact absurd ⟨m, hm, hg⟩ g3)
end Go.Proofs.Ytbagekkcakfhgaa.Depot
