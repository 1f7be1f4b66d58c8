/-
  Some texts of this claim, one behind the other: IndexPutsM. What each proves, and its condition, stands at its head.
-/
import Derived.Test.YtaiinbkfllafiaaZ41
/-
  The walk of IndexPuts, where it looks. Condition: the slices read as entries that are looked at.
-/
namespace Go.Proofs.Ytaiinbkfllafiaa.Index
open Go Go.RowKit Go.Lib Go.Proofs.Ytaiinbkfllafiaa.Span Go.Proofs.Ytaiinbkfllafiaa.Need Go.Proofs.Ytaiinbkfllafiaa.Mani Go.Proofs.Ytaiinbkfllafiaa.Wire Go.Proofs.Ytaiinbkfllafiaa.Depot
set_option linter.unusedVariables false
theorem one_of {rs : List Rw} {l : List En} {w : World} (hl : rs.length = l.length) (h : ∀ (i : Nat) (r : Rw) (q : En), rs[i]? = some r → l[i]? = some q → r.1 = q.1 ∧ ∃ A n c, r.2 = .slice A n c ∧ byR w w.heap.size A n q.2) : ∀ r ∈ rs, ∃ A n c, r.2 = .slice A n c := by
  intro r hr
  obtain ⟨i, hi, rfl⟩ := List.getElem_of_mem hr
  obtain ⟨_, A, n, c, e, _⟩ := h i rs[i] (l[i]'(by omega)) (by simp) (by simp)
  exact ⟨A, n, c, e⟩
set_option maxHeartbeats 32000000 in
set_option maxRecDepth 100000 in
theorem puts_main (l m : List En) (A0 A1 : Option Addr) (n0 c0 n1 c1 : Nat) (nm : ByteArray) (w : World) (h : EnOn w A0 n0 l) (h' : EnOn w A1 n1 m) (g1 : largeE l = false) (g2 : largeE m = false) (hnm : nm.size ≤ 200) :
    Calls Try.prog 3 #[.slice A0 n0 c0, .slice A1 n1 c1, .string nm] w fun e w' => e = .returned (.bool true) ∧ Below w.heap.size w w' := by
  obtain ⟨i0, hi0, hz0, hz1, hz2⟩ := info_parts info_entry
  obtain ⟨h30, hs⟩ := fineE_of g1
  obtain ⟨h30', hs'⟩ := fineE_of g2
  have hlen := h.len
  have hlen' := h'.len
  have hn0 : n0 ≤ 30 := by omega
  have hn1 : n1 ≤ 30 := by omega
  have Hlen := hide hlen
  have Hlen' := hide hlen'
  have HL := hide (largeE_any l A0 n0 c0 w h (by omega))
  have HM := hide (fun (wx : World) (hb : Below w.heap.size w wx) => largeE_any m A1 n1 c1 wx (h'.on hb) (by omega))
  unfold Tells at HL HM
  rw [g1] at HL
  rw [g2] at HM
  have HW := hide (fun wx => awakeX_any wx)
  unfold Tells at HW
  have HN := hide (fun wx => new_any wx)
  have hnz : ¬ (200 : Int) < (nm.size : Int) := by omega
  have hnm9 : nm.size ≤ 1000000000 := by omega
  have Htb := hide (fun i => take_bounds l i h30 hs)
  have Hs := hide hs
  have Hs' := hide hs'
  clear hlen hlen' h30 h30' hs hs' g1 g2
  go_enter Try.func3, Try.ntmps3
  go_upto_region 5 with (first
    | (go_at_call 7
       refine (HN.out _).mono ?_
       rintro e w2 ⟨rfl, hI2, hb2⟩
       have hbw2 := hb1.trans (hb2.mono hb1.size))
    | (go_at_call 5
       refine (HM.out _ hb0).mono ?_
       rintro e w1 ⟨rfl, hb1x⟩
       have hb1 := hb0.trans (hb1x.mono hb0.size))
    | (go_at_call 5
       refine HL.out.mono ?_
       rintro e w0 ⟨rfl, hb0⟩))
  have hI2' : IdxB w2 w.heap.size w1.heap.size [] := ⟨hb1.size, none, hI2, fun b e => by cases e⟩
  obtain ⟨W3, hW3⟩ : ∃ W, W = w2.alloc (.cells #[.slice none 0 0] 29) := ⟨_, rfl⟩
  have hD3 : Doc W3 w2.heap.size [] := by rw [hW3]; exact ⟨none, 0, 0, Blk.new _ _ _, InK.nil _⟩
  have hI3 : IdxB W3 w.heap.size w1.heap.size [] := by rw [hW3]; exact hI2'.below (alloc_b _)
  have hb3 : Below w.heap.size w W3 := by rw [hW3]; exact hbw2.alloc hbw2.size _
  have hgy : w.heap.size ≤ w2.heap.size := hbw2.size
  rw [← hW3]
  clear hW3 hI2 hI2' hb0 hb1x hb2 hbw2 HL HM
  generalize w1.heap.size = g at *
  generalize w2.heap.size = gy at *
  go_wp2
  go_loopw [9] (fun v wr => ∃ (i : Nat), i ≤ n0 ∧ v = .int .i64 (i : Int) ∧ IdxB wr w.heap.size g (putsX [] (l.take i)) ∧ Doc wr gy (putsX [] (l.take i)) ∧ Below w.heap.size w wr) (fun v _ => n0 - (RowKit.intOf v).toNat)
  case atStart => exact ⟨0, by omega, rfl, hI3, hD3, hb3⟩
  case round =>
    obtain ⟨i, hi, rfl, hI, hD, hb⟩ := hrel
    clear hI3 hD3 hb3 hb1
    have hbs := hb.size
    by_cases hlt : i < n0
    · obtain ⟨ad, q, A', n', c', rfl, hbl, hx, hss, d1, d2⟩ := PIn.at_ h hlt
      have hq := Hs.out q (List.mem_of_getElem? hx)
      have hst := putsX_take (l := []) hx
      obtain ⟨hr, hf, hsh, hXl⟩ := Htb.out i
      obtain ⟨x, bd⟩ := q
      simp only [] at d1 d2 hq hst
      have hrdw : Reads w w.heap.size 1 A' n' (bcs bd) := hss
      have Hrd := hide (fun (wx : World) (hbx : Below w.heap.size w wx) => hrdw.below hbx)
      have Hc := hide (fun (wx : World) (hbx : Below w.heap.size w wx) => And.intro ((hbx.cell (p := ad.add (i * 2)) (by rw [block_of_add]; exact hbl)).trans d1) (And.intro ((hbx.cell (p := ⟨(ad.add (i * 2)).block, (ad.add (i * 2)).off + 1, none⟩) (by simp only [block_of_add]; exact hbl)).trans d2) (conv_of (c := c') (hrdw.below hbx))))
      have hx9 : x.size ≤ 1000000000 := by omega
      have hi1 : (0 : Int) ≤ (i : Int) := by omega
      have hi2 : (i : Int) < (n0 : Int) := by omega
      have Hst := hide hst
      generalize putsX [] (l.take i) = X at *
      have HP := hide (fun (wx : World) (hI9 : IdxB wx w.heap.size g X) (hr9 : Reads wx w.heap.size 1 A' n' (bcs bd)) => putW_any x bd A' n' c' hI9 hr (by omega) hr9 hx9)
      have HQ := hide (fun (wx : World) (hD9 : Doc wx gy X) => refPutX_any gy X x bd wx hD9 (by omega) hx9 (by omega))
      unfold PutsD at HQ
      have hee : ∀ z : Int, (z != z) = false := fun z => bne_self_eq_false z
      have hde := hI.below (drew_b wr)
      have hrdd := Hrd.out wr.drew hb.drew
      have hcc := Hc.out wr.drew hb.drew
      generalize errX X x bd = ec at *
      have hec := hee ec
      generalize putX X x bd = X2 at *
      clear hr hf hsh hss hx d1 d2 hst Hs Htb hx9 hq hee hrdw
      go_upto_region 8 with fail
      go_region_held3 (fun w' => w'.cell? (ad.add (i * 2)) = some (.string x) ∧ w'.cell? ⟨(ad.add (i * 2)).block, (ad.add (i * 2)).off + 1, none⟩ = some (.slice A' n' c') ∧ (convert 32 9 (.slice A' n' c')).run Try.prog w' = .ok (.string (str bd)) w') (first | exact Hc.out w6 hb6 | exact Hc.out w5 hb5 | exact hcc | go_keep)
        (first
          | (go_at_call 9
             refine (HQ.out _ hD5).mono ?_
             rintro e w6 ⟨rfl, hD6, hg6⟩
             have hb6 : Below w.heap.size w w6 := hb5.grown hg6 hb5.size (fun k hk => by injection hk with hk; omega))
          | (go_at_call 8
             refine (HP.out _ hde hrdd).mono ?_
             rintro e w5 ⟨rfl, hI5, hw5⟩
             have hb5 : Below w.heap.size w w5 := hb.drew.trans (hw5.below hbs)
             have hD5 := hw5.doc (hD.below (drew_b wr))))
      have hI6 : IdxB w6 w.heap.size g X2 := by
        obtain ⟨_, _, _, hbk, _⟩ := hD5
        exact hI5.doc hbk hg6
      go_wp2
      go_roundw
      case rel => exact ⟨i + 1, by omega, by go_num, by rw [Hst.out]; exact hI6, by rw [Hst.out]; exact hD6, hb6⟩
      case measure => simp [RowKit.intOf]; omega
    · have hi2 : i = n0 := by omega
      obtain ⟨hr, hf, hsh, hXl⟩ := Htb.out i
      rw [List.take_of_length_le (by rw [Hlen.out]; omega)] at hI hD hr hf hsh hXl
      generalize hX : putsX [] l = X at *
      obtain ⟨Ay, ny, cy, hby, hKy⟩ := hD
      subst hi2
      clear Htb
      obtain ⟨W1, hW1⟩ : ∃ W1, W1 = wr := ⟨wr, rfl⟩
      subst hW1
      have HC := hide (show Calls Try.prog 10 #[.pointer (some ⟨g, 0, none⟩)] W1 fun e w' => ∃ g', e = .returned (.pointer (some ⟨g', 0, none⟩)) ∧ IdxB w' W1.heap.size g' X ∧ Below W1.heap.size W1 w' from by
        obtain ⟨_, mo, h2, _⟩ := hI
        refine (clone_any g mo X W1 h2).mono ?_
        rintro e w' ⟨g', mo', he, h3, h4, h5, h6⟩
        exact ⟨g', he, ⟨h4, mo', h3, h5⟩, h6⟩)
      go_wp2_with (first
        | (go_at_call 10
           refine HC.out.mono ?_
           rintro e w7 ⟨g2, rfl, hI7, hb7⟩))
      go_loopw [11] (fun v wx => ∃ (j : Nat), j ≤ n1 ∧ v = .int .i64 (j : Int) ∧ IdxB wx W1.heap.size g2 (putsX X (m.take j)) ∧ Below W1.heap.size W1 wx) (fun v _ => n1 - (RowKit.intOf v).toNat)
      case atStart => exact ⟨0, by omega, rfl, hI7, hb7⟩
      case round =>
        obtain ⟨j, hj, rfl, hIc, hbc⟩ := hrel
        have hbcs := hbc.size
        have hbw := hb.trans (hbc.mono hbs)
        clear hI7 hb7
        have hrm := putsX_rises hr (m.take j)
        have hfm := hf.puts (m.take j)
        have hsm := puts_short hsh (m.take j) fun e he => by have := Hs'.out e (List.mem_of_mem_take he); omega
        have hlm : (putsX X (m.take j)).length ≤ 100 := by
          have h1 := putsX_len X (m.take j)
          have h2 : (m.take j).length ≤ m.length := by rw [List.length_take]; omega
          have h3 := Hlen'.out
          omega
        by_cases hlt' : j < n1
        · obtain ⟨ad, q, A', n', c', rfl, hbl, hx, hss, d1, d2⟩ := PIn.at_ h' hlt'
          have hq := Hs'.out q (List.mem_of_getElem? hx)
          have hst := putsX_take (l := X) hx
          obtain ⟨x, bd⟩ := q
          simp only [] at d1 d2 hq hst
          have hrdw : Reads w w.heap.size 1 A' n' (bcs bd) := hss
          have Hrd := hide (fun (wx : World) (hbx : Below w.heap.size w wx) => hrdw.below hbx)
          have Hc := hide (fun (wx : World) (hbx : Below w.heap.size w wx) => And.intro ((hbx.cell (p := ad.add (j * 2)) (by rw [block_of_add]; exact hbl)).trans d1) ((hbx.cell (p := ⟨(ad.add (j * 2)).block, (ad.add (j * 2)).off + 1, none⟩) (by simp only [block_of_add]; exact hbl)).trans d2))
          have hx9 : x.size ≤ 1000000000 := by omega
          have hi1 : (0 : Int) ≤ (j : Int) := by omega
          have hi2 : (j : Int) < (n1 : Int) := by omega
          have Hst := hide hst
          generalize putsX X (m.take j) = Y at *
          have HP := hide (fun (wx : World) (hI9 : IdxB wx W1.heap.size g2 Y) (hr9 : Reads wx W1.heap.size 1 A' n' (bcs bd)) => putB_any g2 Y x bd A' n' c' W1.heap.size wx hI9 hrm (by omega) hr9 hx9)
          have hde := hIc.below (drew_b wr)
          have hrdd := (Hrd.out wr.drew hbw.drew).more hbs
          have hcc := Hc.out wr.drew hbw.drew
          generalize errX Y x bd = ec at *
          generalize putX Y x bd = Y2 at *
          clear hrm hfm hsm hlm hss hx d1 d2 hst hx9 hq hrdw Hs Hs' h h' hr hf hsh hI hKy hby HC HW HN hX Hlen Hlen'
          go_upto_region 14 with fail
          go_region_held3 (fun w' => w'.cell? (ad.add (j * 2)) = some (.string x) ∧ w'.cell? ⟨(ad.add (j * 2)).block, (ad.add (j * 2)).off + 1, none⟩ = some (.slice A' n' c')) (first | exact Hc.out w9 hbw9 | exact hcc | go_keep)
            (first
              | (go_at_call 8
                 refine (HP.out _ hde hrdd).mono ?_
                 rintro e w9 ⟨rfl, hI9, hb9⟩
                 have hbc9 : Below W1.heap.size W1 w9 := hbc.drew.trans hb9
                 have hbw9 : Below w.heap.size w w9 := hb.trans (hbc9.mono hbs)))
          go_wp2
          go_roundw
          case rel => exact ⟨j + 1, by omega, by go_num, by rw [Hst.out]; exact hI9, hbc9⟩
          case measure => simp [RowKit.intOf]; omega
        · have hj2 : j = n1 := by omega
          rw [List.take_of_length_le (by rw [Hlen'.out]; omega)] at hIc hrm hfm hsm hlm
          have hcat : putsX X m = putsX [] (l ++ m) := by rw [putsX_append, hX]
          subst hj2
          have hIx := hI.below hbc
          have hKx := hKy.below hbc
          have hbyx := hby.below hbc hby.lt
          have hEl := h.on hbw
          have hEm := h'.on hbw
          have HZG := hide (fun wx => get_nil (str [97]) wx (by decide))
          unfold Gots at HZG
          clear hI hKy hby HC HN h h' hbc
          go_upto_region 17 with (first
            | (go_at_call 11
               refine (HZG.out _).mono ?_
               rintro e w9 ⟨A9, n9, c9, B9, rs9, rfl, hR9, hb9⟩))
          obtain ⟨V, hV⟩ : ∃ W, W = w9.alloc (.cells #[.string (str [97]), .slice A9 n9 c9] 38) := ⟨_, rfl⟩
          have hbV : Below wr.heap.size wr V := by rw [hV]; exact hb9.alloc hb9.size _
          rw [← hV]
          clear hV hR9 hb9 HZG
          have hIx := hIx.below hbV
          have hIc := hIc.below hbV
          have hKx := hKx.below hbV
          have hbyx := hbyx.below hbV hbyx.lt
          have hEl := hEl.on hbV
          have hEm := hEm.on hbV
          have hbwV := hbw.trans (hbV.mono hbw.size)
          clear hbV hbw hbcs
          obtain ⟨rsl, hl1, hl2, hl3⟩ := id hEl
          obtain ⟨rsm, hm1, hm2, hm3⟩ := id hEm
          have hky := (hbyx.cell 0).trans (show (#[Value.slice Ay ny cy] : Array Value)[0]? = some (.slice Ay ny cy) from rfl)
          have hny : ny ≤ 100000 := by
            have := hKx.len
            omega
          rw [hcat] at hIc hrm hfm hsm
          have hall : ∀ e ∈ l ++ m, e.1.size ≤ 1000000000 ∧ e.2.length ≤ 1000000000 := fun e he => by
            rcases List.mem_append.1 he with he | he
            · have := Hs.out e he; omega
            · have := Hs'.out e he; omega
          have hlm2 : (l ++ m).length ≤ 100000 := by
            have h3 := Hlen.out
            have h4 := Hlen'.out
            rw [List.length_append]
            omega
          have hpl2 : (putsX [] (l ++ m)).length ≤ 100000 := by rw [← hcat]; omega
          have hlo1 := one_of hl2 hl3
          have hmo1 := one_of hm2 hm3
          have HS1 := hide (fun (wx : World) (hb9 : Below V.heap.size V wx) => sameB_any Ay ny cy nm (hIx.below hb9) (hKx.below hb9) hr hf hsh hny hnm9)
          have HS2 := hide (fun (A4 : Option Addr) (n4 c4 : Nat) (wx : World) (hb9 : Below V.heap.size V wx) (h4 : InK wx A4 n4 (putsX [] (l ++ m))) => sameB_any A4 n4 c4 nm (hIc.below hb9) h4 hrm hfm hsm (by rw [← h4.len]; exact hpl2) hnm9)
          have HS3 := hide (fun (g6 B6 : Nat) (wx : World) (hb9 : Below V.heap.size V wx) (h6 : IdxB wx B6 g6 X) => sameB_any Ay ny cy nm h6 (hKx.below hb9) hr hf hsh hny hnm9)
          unfold Tells at HS1 HS2 HS3
          have HO := hide (fun (A4 : Option Addr) (n4 c4 : Nat) (wx : World) (h4 : EnOn wx A4 n4 (l ++ m)) => refOfX_any (l ++ m) A4 n4 c4 wx h4 (by rw [← h4.len]; exact hlm2) hall)
          have HIO := hide (fun (wx : World) (hb9 : Below V.heap.size V wx) => indexOf_any l A0 i c0 wx (hEl.on hb9) (by omega) fun e he => by have := Hs.out e he; omega)
          rw [hX] at HIO
          have HZP := hide (fun wx => put_nil (str [97]) none 0 0 wx)
          have HZH := hide (fun wx => has_nil (str [97]) wx)
          have HZL := hide (fun wx => len_nil_ wx)
          have HZN := hide (fun wx => names_nil wx)
          have HZC := hide (fun wx => clone_nil wx)
          have He := hide (fun (wx : World) (hb9 : Below V.heap.size V wx) => (hb9.cell (p := ⟨gy, 0, none⟩) hbyx.lt).trans hky)
          have HE4 := hide (fun (A4 : Option Addr) (n4 c4 : Nat) (wx : World) (hb9 : Below V.heap.size V wx) (ho : wx.ownsRow V.heap.size 34 2 (.slice A4 n4 c4) n4 (rcs (rsl ++ rsm))) =>
            enOn_row ho (by rw [List.length_append, List.length_append, hl2, hm2]) (all_cat hl2 (fun a r q hr hq => by
              obtain ⟨e1, A, n, c, e2, h9⟩ := hl3 a r q hr hq
              exact ⟨e1, A, n, c, e2, byR_keeps.more (byR_keeps.below h9 hb9) hb9.size⟩) (fun a r q hr hq => by
              obtain ⟨e1, A, n, c, e2, h9⟩ := hm3 a r q hr hq
              exact ⟨e1, A, n, c, e2, byR_keeps.more (byR_keeps.below h9 hb9) hb9.size⟩)))
          have hdV := drew_b V
          have hol := rcs_one rsl hlo1
          have hom := rcs_one rsm hmo1
          have hmx1 : 0 + i ≤ maxLen := by unfold maxLen; omega
          have hby1 : (0 + i) * 40 ≤ 140737488355328 := by omega
          have hmx2 : i + j ≤ maxLen := by unfold maxLen; omega
          have hby2 : (i + j) * 40 ≤ 140737488355328 := by omega
          have h02 : 0 < 2 := by omega
          clear hr hf hsh hXl hrm hfm hsm hlm hall hlm2 hpl2 hIx hIc hKx hEl hEm hl2 hl3 hm2 hm3 hcat hX hny hky hbyx Hs Hs' Hlen Hlen'
          go_region_held3 (fun w' => w'.cell? ⟨gy, 0, none⟩ = some (.slice Ay ny cy)) (first | exact He.out _ hbk11 | exact He.out _ hbk10 | exact He.out _ hbk8 | exact He.out _ hbk7 | exact He.out _ hbk6 | exact He.out _ hbk5 | exact He.out _ hbk4 | exact He.out _ hbk3 | exact He.out _ (hbk1.alloc hbk1.size _) | exact He.out _ hbk1 | exact He.out _ hdV | go_keep)
            (first
              | (go_at_call 12
                 refine (HS3.out _ _ _ hbk7 hI7).mono ?_
                 rintro e w8 ⟨rfl, hb8⟩
                 have hbk8 := hbk7.trans (hb8.mono hbk7.size))
              | (go_at_call 12
                 refine (HS2.out _ _ _ _ hbk5 hK5).mono ?_
                 rintro e w6 ⟨rfl, hb6⟩
                 have hbk6 := hbk5.trans (hb6.mono hbk5.size))
              | (go_at_call 12
                 refine (HS1.out _ hdV).mono ?_
                 rintro e w1' ⟨rfl, hb1⟩
                 have hbk1 := hdV.trans hb1
                 have hbkA := hbk1.alloc hbk1.size (.cells #[] 34)
                 have hownA := own_empty2 w1' V.heap.size 34 hbk1.size
                 have hlA := hl1.below hbkA)
              | (go_at_call 13
                 refine (HO.out _ _ _ _ hE4).mono ?_
                 rintro e w5 ⟨A5, n5, c5, rfl, hK5, hb5⟩
                 have hbk5 := hbk4.trans (hb5.mono hbk4.size))
              | (go_at_call 14
                 refine (HIO.out _ hbk6).mono ?_
                 rintro e w7 ⟨g6, rfl, hI7, hb7⟩
                 have hbk7 := hbk6.trans (hb7.mono hbk6.size))
              | (go_at_call 8
                 refine (HZP.out _).mono ?_
                 rintro e w9 ⟨rfl, rfl⟩)
              | (go_at_call 15
                 refine (HZH.out _).mono ?_
                 rintro e w9 ⟨rfl, rfl⟩)
              | (go_at_call 16
                 refine (HZL.out _).mono ?_
                 rintro e w9 ⟨rfl, rfl⟩)
              | (go_at_call 17
                 refine (HZN.out _).mono ?_
                 rintro e w10 ⟨rfl, hb10⟩
                 have hbk10 := hbk8.trans (hb10.mono hbk8.size))
              | (go_at_call 10
                 refine (HZC.out _).mono ?_
                 rintro e w9 ⟨rfl, rfl⟩)
              | (go_at_call 6
                 refine (HW.out _).mono ?_
                 rintro e w11 ⟨rfl, hb11⟩
                 have hbk11 := hbk10.trans (hb11.mono hbk10.size))
              | (rw [if_pos (by rfl)]
                 refine wp_append_any _ (.tmp 93) (.tmp 94) _ rfl V.heap.size 34 i0 _ 2 40 Try.underlying22 hi0 hz0 hz1 hz2 rfl h02 _ i (rcs rsl) rfl hown3 _ A1 j c1 (rcs rsm) rfl hm3x hom hmx2 hby2 hbk3.size ?_
                 intro v4 w4 hown4 hg4 hat4
                 have hbk4 : Below V.heap.size V w4 := hbk3.grown hg4 hbk3.size (fun k hk => (hown3.lt k hk).1)
                 rw [← rcs_append] at hown4
                 obtain ⟨A4, c4, rfl, _, _⟩ := own_form hown4
                 have hE4 := HE4.out A4 _ c4 w4 hbk4 hown4)
              | (rw [if_pos (by rfl)]
                 refine wp_append_any _ (.tmp 91) (.tmp 92) _ rfl V.heap.size 34 i0 _ 2 40 Try.underlying22 hi0 hz0 hz1 hz2 rfl h02 _ 0 [] rfl hownA _ A0 i c0 (rcs rsl) rfl hlA hol hmx1 hby1 hbkA.size ?_
                 intro v3 w3 hown3x hg3 hat3
                 have hbk3 : Below V.heap.size V w3 := hbkA.grown hg3 hbkA.size (fun k hk => (hownA.lt k hk).1)
                 rw [List.nil_append, Nat.zero_add] at hown3x
                 obtain ⟨A3, c3, rfl, _, _⟩ := own_form hown3x
                 have hown3 := hown3x
                 have hm3x := hm1.below hbk3))
          have hbE := hbwV.trans (hbk11.mono hbwV.size)
          clear HS1 HS2 HS3 HO HIO HE4 He
          go_wp2
          go_ret
          exact ⟨rfl, hbE⟩
theorem puts_walk (l m : List En) (A0 A1 : Option Addr) (n0 c0 n1 c1 : Nat) (nm : ByteArray) (w : World) (h : EnOn w A0 n0 l) (h' : EnOn w A1 n1 m) (hn : n0 ≤ 9223372036854775807) (hn' : n1 ≤ 9223372036854775807) :
    Calls Try.prog 3 #[.slice A0 n0 c0, .slice A1 n1 c1, .string nm] w fun e w' => e = .returned (.bool true) ∧ Below w.heap.size w w' := by
  by_cases hs : largeE l = true ∨ largeE m = true ∨ 200 < nm.size
  · exact puts_skip l m A0 A1 n0 c0 n1 c1 nm w h h' hn hn' hs
  · have g1 : largeE l = false := by
      cases e : largeE l with
      | true => exact absurd (.inl e) hs
      | false => rfl
    have g2 : largeE m = false := by
      cases e : largeE m with
      | true => exact absurd (.inr (.inl e)) hs
      | false => rfl
    exact puts_main l m A0 A1 n0 c0 n1 c1 nm w h h' g1 g2 (Nat.le_of_not_lt fun e => hs (.inr (.inr e)))
end Go.Proofs.Ytaiinbkfllafiaa.Index
