/-
  Some texts of this claim, one behind the other: ClashRefCheck, RuleShowAll, TermShow, ClashRefTold, ClashRefMake. What each proves, and its condition, stands at its head.
-/
import Derived.Test.YtpicnbidbddggaaGreatDoorX24
import Derived.Test.YtpicnbidbddggaaGreatDoorX35
import Derived.Test.YtpicnbidbddggaaGreatDoorX23
import Derived.Laws.Cover1
import Derived.Test.YtpicnbidbddggaaGreatDoorX18
import Derived.Shelf.Strings.OnBuilder
import Derived.Test.YtpicnbidbddggaaGreatDoorX36
import Derived.Test.YtpicnbidbddggaaGreatDoorX20
import Derived.Test.YtpicnbidbddggaaGreatDoorX12
/-
  Contracts of the document's Check, Same and Find of clashes. Condition: the slices read as terms, of names of at most 1,000,000,000 bytes and sets of at most 1,000,000,001 spans.
-/
namespace Go.Proofs.YtpicnbidbddggaaGreatDoor.Clash
open Go.Proofs.YtpicnbidbddggaaGreatDoor.Pick (triP empty_lt fit_some)
open Go Go.RowKit Go.Lib Go.Proofs.YtpicnbidbddggaaGreatDoor.Span Go.Proofs.YtpicnbidbddggaaGreatDoor.Need Go.Proofs.YtpicnbidbddggaaGreatDoor.Grow Go.Proofs.YtpicnbidbddggaaGreatDoor.Term
open Go.Proofs.YtpicnbidbddggaaGreatDoor.Label (runes fitL)
set_option linter.unusedVariables false
theorem cell_in {w : World} {p : Addr} {v : Value} (h : w.cell? p = some v) (hp : p.block < w.heap.size) (d : Nat) (os : Array Obj) : (Sort.grow (redrawn w d) os).cell? p = some v :=
  ((below_regrown w d os).cell hp).trans h
def FineT (l : List Tm) : Prop := ∀ t ∈ l, t.name.size ≤ 1000000000 ∧ t.set.length ≤ 1000000001
end Go.Proofs.YtpicnbidbddggaaGreatDoor.Clash
/-
  The library's own Join, laid at this program; and the contracts of the program's and the document's Show. Condition: at most 1,000 spans; the tables hold what the texts lay in them.
-/
namespace Go.Proofs.YtpicnbidbddggaaGreatDoor.Rule
open Go.RowKit Go.Lib Go.Shelf Go.Proofs.YtpicnbidbddggaaGreatDoor.Span
open Go.Proofs.YtpicnbidbddggaaGreatDoor.Ver (Tabs)
set_option linter.unusedVariables false
def sepL : List UInt8 := [32, 124, 32]
theorem join_eq : ∀ l : List S, joinL l = join (l.map partL) sepL
  | [] => rfl
  | [s] => by rw [List.map_cons, List.map_nil, join_one]; rfl
  | s :: t :: r => by
    have ih := join_eq (t :: r)
    have e : joinL (s :: t :: r) = partL s ++ 32 :: 124 :: 32 :: joinL (t :: r) := rfl
    rw [e, ih, List.map_cons, List.map_cons, join_cons, join_cons]
    simp [joinTail, sepL]
theorem join_more {l : List S} {i : Nat} {s : S} (h : l[i]? = some s) (hi : 1 ≤ i) : joinL (l.take (i + 1)) = joinL (l.take i) ++ 32 :: 124 :: 32 :: partL s := by
  rw [join_eq, join_eq]
  cases l with
  | nil => simp at h
  | cons x t =>
    obtain ⟨k, rfl⟩ : ∃ k, i = k + 1 := ⟨i - 1, by omega⟩
    rw [List.take_succ_cons, List.take_succ_cons, List.map_cons, List.map_cons, join_cons, join_cons, List.map_take, List.map_take, joinTail_take_succ sepL (t.map partL) k (partL s) (by rw [List.getElem?_map]; simp at h; rw [h]; rfl)]
    simp [sepL]
theorem info_str : (Tryz.prog.info? 9).map (fun i => (i.zero, i.size, i.bytes)) = some (some (.string ByteArray.empty), 1, 16) := by kernel_rfl
set_option maxHeartbeats 2000000 in
set_option maxRecDepth 100000 in
theorem refShow_any (l : List S) (A : Option Addr) (n c : Nat) (w : World) (h : SpOn w A n l) (hn : n ≤ 1000) :
    Calls Tryz.prog 74 #[.slice A n c] w (Tells w (.string (str (showL l)))) := by
  unfold Tells
  have hlen : l.length = n := h.1
  have HC := hide (refCheck_on (c := c) h (by omega))
  by_cases h1 : isSet (-1) l = false
  · have e : showL l = [] := by unfold showL; rw [if_pos h1]
    rw [e]
    rw [h1] at HC
    clear h1 e
    go_enter Tryz.func74, Tryz.ntmps74
    go_wp2_with (go_at_call 18
                 refine HC.out.mono ?_
                 rintro e w1 ⟨rfl, hb1⟩)
    go_ret
    exact ⟨rfl, hb1⟩
  · have h1' : isSet (-1) l = true := by simpa using h1
    rw [h1'] at HC
    by_cases h2 : l = []
    · have e : showL l = noneL := by unfold showL; rw [if_neg h1, if_pos h2]
      rw [e]
      have hn0 : n = 0 := by rw [← hlen, h2]; rfl
      subst hn0
      clear h1 e h2 hlen
      go_enter Tryz.func74, Tryz.ntmps74
      go_wp2_with (go_at_call 18
                   refine HC.out.mono ?_
                   rintro e w1 ⟨rfl, hb1⟩)
      go_ret
      exact ⟨rfl, hb1⟩
    · have hn0 : ((n : Int) == 0) = false := beq_eq_false_iff_ne.2 fun e => h2 (List.eq_nil_of_length_eq_zero (by omega))
      have hn1 : 1 ≤ n := by
        rcases Nat.eq_zero_or_pos n with e | e
        · exact absurd (List.eq_nil_of_length_eq_zero (by omega)) h2
        · exact e
      have HS := hide (fun (wx : World) (A' : Option Addr) (n' c' : Nat) (hx : SpOn wx A n l) (hy : SpOn wx A' n' [((0 : Int), (1000000000 : Int))]) => refSame_on (c := c) (c' := c') hx hy (by omega) (by have := hy.len; simp at this; omega))
      by_cases h3 : l = [(0, 1000000000)]
      · have e : showL l = anyL := by unfold showL; rw [if_neg h1, if_neg h2, if_pos h3]
        rw [e]
        rw [decide_eq_true h3] at HS
        clear h1 e h2 hlen h3
        go_enter Tryz.func74, Tryz.ntmps74
        go_wp2_with (first
          | (go_at_call 18
             refine HC.out.mono ?_
             rintro e w1 ⟨rfl, hb1⟩
             have hx1 := h.on hb1)
          | (go_at_call 114
             refine (refAll_any w1).mono ?_
             rintro e w2 ⟨A2, n2, c2, rfl, hy, hb2⟩
             have hx2 := hx1.on hb2
             have hb12 := hb1.trans (hb2.mono hb1.size))
          | (go_at_call 113
             refine (HS.out _ _ _ _ hx2 hy).mono ?_
             rintro e w3 ⟨rfl, hb3⟩))
        go_ret
        exact ⟨rfl, hb12.trans (hb3.mono hb12.size)⟩
      · have e : showL l = joinL l := by unfold showL; rw [if_neg h1, if_neg h2, if_neg h3]
        rw [e]
        rw [decide_eq_false h3] at HS
        have hr := hide (fun s (hs : s ∈ l) => mem_range h1' s hs)
        clear h1 e h2 h3 h1'
        have hj0 := join_len l
        go_enter Tryz.func74, Tryz.ntmps74
        go_upto_region 7 with (first
          | (go_at_call 18
             refine HC.out.mono ?_
             rintro e w1 ⟨rfl, hb1⟩
             have hx1 := h.on hb1)
          | (go_at_call 114
             refine (refAll_any w1).mono ?_
             rintro e w2 ⟨A2, n2, c2, rfl, hy, hb2⟩
             have hx2 := hx1.on hb2
             have hb12 := hb1.trans (hb2.mono hb1.size))
          | (go_at_call 113
             refine (HS.out _ _ _ _ hx2 hy).mono ?_
             rintro e w3 ⟨rfl, hb3⟩
             have hx3 := hx2.on hb3
             have hb13 := hb12.trans (hb3.mono hb12.size)))
        obtain ⟨ad, s, rfl, hbl, hs, p1, p2⟩ := SpIn.at_ hx3 (show 0 < n by omega)
        rw [Nat.zero_mul, add_zero'] at p1 p2
        obtain ⟨r1, r2, r3, _⟩ := hr.out s (List.mem_of_getElem? hs)
        have Hsh := hide (part_any s.1 s.2 w3 (by omega) r2 r3)
        have h0 : joinL (l.take 1) = partL s := by
          cases l with
          | nil => simp at hs
          | cons x t => simp at hs; subst hs; rfl
        have H0 : Hid (str (partL (s.1, s.2)) = str (joinL (l.take 1))) := hide (by rw [h0])
        clear h0 hs hx1 hx2 hb1 hb2 hb12 hb3 hy HS HC h r1 r2 r3 hbl
        obtain ⟨sx, sy⟩ := s
        simp only [] at p1 p2 Hsh H0
        go_wp2_with (go_at_call 115
                     refine Hsh.out.mono ?_
                     rintro e w4 ⟨rfl, hb4⟩
                     have hx4 := hx3.on hb4
                     have hb14 := hb13.trans (hb4.mono hb13.size))
        rw [H0.out]
        clear p1 p2 hb4 hb13 hx3 Hsh H0
        go_loopw [3, 4] (fun u x wr => ∃ (i : Nat), 1 ≤ i ∧ i ≤ n ∧ u = .string (str (joinL (l.take i))) ∧ x = .int .i64 (i : Int) ∧ SpOn wr (some ad) n l ∧ Below w.heap.size w wr) (fun _ x _ => n - (RowKit.intOf x).toNat)
        case atStart => exact ⟨1, by omega, by omega, rfl, rfl, hx4, hb14⟩
        case round =>
          obtain ⟨i, hi1, hi, rfl, rfl, hx, hb⟩ := hrel
          clear hx4 hb14
          by_cases hlt : i < n
          · obtain ⟨ad', s, hA, hbl, hs, p1, p2⟩ := SpIn.at_ hx hlt
            injection hA with hA
            subst hA
            obtain ⟨r1, r2, r3, _⟩ := hr.out s (List.mem_of_getElem? hs)
            have Hsh := hide (part_any s.1 s.2 wr (by omega) r2 r3)
            have hjm := join_more hs hi1
            have Hj : Hid (str (joinL (l.take i)) ++ (⟨#[32, 124, 32]⟩ : ByteArray) ++ str (partL (s.1, s.2)) = str (joinL (l.take (i + 1)))) := hide (by
              have a1 := str_append (joinL (l.take i)) [32, 124, 32]
              have a2 := str_append (joinL (l.take i) ++ [32, 124, 32]) (partL (s.1, s.2))
              have b1 : (⟨#[32, 124, 32]⟩ : ByteArray) = str [32, 124, 32] := rfl
              rw [b1, a1, a2, hjm]
              simp)
            have s1 : (str (joinL (l.take i))).size ≤ 30000 := by
              rw [str_size]
              have := join_len (l.take i)
              rw [List.length_take] at this
              omega
            have s2 : (str (partL (s.1, s.2))).size ≤ 26 := by rw [str_size]; exact part_len _
            clear hjm hs r1 r2 r3
            obtain ⟨sx, sy⟩ := s
            simp only [] at p1 p2 Hsh Hj s2
            generalize str (partL (sx, sy)) = P at *
            generalize str (joinL (l.take i)) = J at *
            go_wp2_with (go_at_call 115
                         refine Hsh.out.mono ?_
                         rintro e w5 ⟨rfl, hb5⟩)
            go_roundw
            case rel => exact ⟨i + 1, by omega, by omega, by rw [← Hj.out], by go_num, hx.on hb5, hb.trans (hb5.mono hb.size)⟩
            case measure => simp [RowKit.intOf]; omega
          · have hin : i = n := by omega
            subst hin
            have e : l.take i = l := List.take_of_length_le (by omega)
            rw [e]
            clear e
            go_wp2
            go_ret
            exact ⟨rfl, hb⟩
end Go.Proofs.YtpicnbidbddggaaGreatDoor.Rule
/-
  Contracts of the program's Show of a term (over states) and of the document's: the text that plain mathematics tells. Condition: at most 1,000 spans, a name of at most 1,000,000,000 bytes; the tables hold what the texts lay in them.
-/
namespace Go.Proofs.YtpicnbidbddggaaGreatDoor.Term
open Go Go.RowKit Go.Lib Go.Proofs.YtpicnbidbddggaaGreatDoor.Span Go.Proofs.YtpicnbidbddggaaGreatDoor.Need Go.Proofs.YtpicnbidbddggaaGreatDoor.Grow
open Go.Proofs.YtpicnbidbddggaaGreatDoor.Label (runes fitL fit_any refFit_any)
open Go.Proofs.YtpicnbidbddggaaGreatDoor.Ver (Tabs)
open Go.Proofs.YtpicnbidbddggaaGreatDoor.Rule (showL refShow_any show_len)
set_option linter.unusedVariables false
theorem str_small {s : List S} {n : Nat} (h : s.length = n) (hn : n ≤ 1000) : (str (showL s)).size ≤ 100000 := by
  have := show_len s
  rw [str_size]
  omega
theorem bytes_assoc (a b c : ByteArray) : a ++ b ++ c = a ++ (b ++ c) := ByteArray.append_assoc
section
variable {nm : ByteArray} {s : List S} {z : Bool}
theorem ok_is : okT ⟨nm, s, z⟩ = (fitL (runes nm 0) && isSet (-1) s) := rfl
theorem full_is : fullT ⟨nm, s, z⟩ = (z && decide (s = allS)) := rfl
theorem empty_is : emptyT ⟨nm, s, z⟩ = (!z && decide (s = [])) := rfl
end
theorem states_small {nm : ByteArray} {s : List S} {z : Bool} {n : Nat} (h : s.length = n) (hn : n ≤ 1000) : (statesT ⟨nm, s, z⟩).size ≤ 200000 := by
  have := str_small h hn
  unfold statesT
  repeat' split
  · decide
  · decide
  · decide
  · simp only [ByteArray.size_append]
    have e1 : wOr.size = 4 := rfl
    have e2 : wAbsent.size = 6 := rfl
    omega
  · show (str (showL s)).size ≤ 200000
    omega
set_option maxHeartbeats 8000000 in
set_option maxRecDepth 100000 in
theorem refShowT_any (nm : ByteArray) (s : List S) (z : Bool) (A : Option Addr) (n c : Nat) (w : World) (h : SpOn w A n s) (hn : n ≤ 1000) (hnm : nm.size ≤ 1000000000) :
    Calls Tryz.prog 42 #[.agg #[.string nm, .slice A n c, .bool z]] w (Tells w (.string (showT ⟨nm, s, z⟩))) := by
  unfold Tells showT statesT
  rw [ok_is, full_is, empty_is]
  have hl0 := len_zero h
  have hsz := hide (str_small h.len.symm hn)
  have hsm := hide (Label.fit_small nm)
  have HC : Hid (∀ wx, Below w.heap.size w wx → Calls Tryz.prog 71 #[.agg #[.string nm, .slice A n c, .bool z]] wx fun e w' => e = .returned (.bool (fitL (runes nm 0) && isSet (-1) s)) ∧ Below wx.heap.size wx w') := hide (fun wx hbx => by
    have := refCheckT_any nm s z A n c wx (h.on hbx) hnm (by omega)
    first | (unfold Tells at this; exact this) | exact this)
  have HF : Hid (∀ wx, Below w.heap.size w wx → Calls Tryz.prog 72 #[.agg #[.string nm, .slice A n c, .bool z]] wx fun e w' => e = .returned (.bool (z && decide (s = allS))) ∧ Below wx.heap.size wx w') := hide (fun wx hbx => by
    have := refFullT_any nm s z A n c wx (h.on hbx) (by omega)
    first | (unfold Tells at this; exact this) | exact this)
  have HE : Hid (∀ wx, Below w.heap.size w wx → Calls Tryz.prog 73 #[.agg #[.string nm, .slice A n c, .bool z]] wx fun e w' => e = .returned (.bool (!z && decide (s = []))) ∧ Below wx.heap.size wx w') := hide (fun wx hbx => by
    have := refEmptyT_any nm s z A n c wx (h.on hbx)
    first | (unfold Tells at this; exact this) | exact this)
  have HR : Hid (∀ wx, Below w.heap.size w wx → Calls Tryz.prog 74 #[.slice A n c] wx fun e w' => e = .returned (.string (str (showL s))) ∧ Below wx.heap.size wx w') := hide (fun wx hbx => by
    have := refShow_any s A n c wx (h.on hbx) hn
    unfold Tells at this
    exact this)
  obtain ⟨W, hW⟩ : ∃ W, W = w.alloc (.cells #[.string nm, .slice A n c, .bool z] 63) := ⟨_, rfl⟩
  have hba : Below w.heap.size w W := by rw [hW]; exact alloc_b _
  have bk : Blk W w.heap.size 63 #[.string nm, .slice A n c, .bool z] := by rw [hW]; exact Blk.new _ _ _
  have k0 := bk.cell 0
  have k1 := bk.cell 1
  have k2 := bk.cell 2
  clear h hn hnm
  show Calls _ _ _ _ fun e w' => e = .returned (.string (if (fitL (runes nm 0) && isSet (-1) s) = true then nm ++ wBlank ++ (if (z && decide (s = allS)) = true then wFull else if (!z && decide (s = [])) = true then wEmpty else if s = [] then wAbsent else if z = true then str (showL s) ++ wOr ++ wAbsent else str (showL s)) else ⟨#[]⟩)) ∧ Below w.heap.size w w'
  generalize str (showL s) = R at *
  cases g : (fitL (runes nm 0) && isSet (-1) s) with
  | false =>
    rw [g] at HC
    rw [if_neg (by simp)]
    clear g HF HE HR hsz hsm hl0
    go_enter Tryz.func42, Tryz.ntmps42
    go_upto_region 1 with fail
    try rw [← hW]
    clear hW
    go_wp2_with (first
      | (go_at_call 71
         refine (HC.out _ hba).mono ?_
         rintro e wn ⟨rfl, hbx⟩
         have bk := bk.below hbx bk.lt
         have k0 := bk.cell 0
         have k1 := bk.cell 1
         have k2 := bk.cell 2
         have hba := hba.trans (hbx.mono hba.size)))
    go_ret
    exact ⟨rfl, hba⟩
  | true =>
  rw [g] at HC
  rw [if_pos rfl]
  have hnm : nm.size ≤ 48 := hsm.out (by simp only [Bool.and_eq_true] at g; exact g.1)
  clear g hsm
  cases g1 : (z && decide (s = allS)) with
  | true =>
    rw [g1] at HF
    rw [if_pos rfl, bytes_assoc]
    show Calls _ _ _ _ fun e w' => e = .returned (.string (nm ++ ⟨#[32, 119, 104, 97, 116, 101, 118, 101, 114]⟩)) ∧ Below w.heap.size w w'
    clear HE HR hl0 hsz g1
    go_enter Tryz.func42, Tryz.ntmps42
    go_upto_region 1 with fail
    try rw [← hW]
    clear hW
    go_wp2_with (first
      | (go_at_call 72
         refine (HF.out _ hba).mono ?_
         rintro e wn ⟨rfl, hbx⟩
         have bk := bk.below hbx bk.lt
         have k0 := bk.cell 0
         have k1 := bk.cell 1
         have k2 := bk.cell 2
         have hba := hba.trans (hbx.mono hba.size))
      | (go_at_call 71
         refine (HC.out _ hba).mono ?_
         rintro e wn ⟨rfl, hbx⟩
         have bk := bk.below hbx bk.lt
         have k0 := bk.cell 0
         have k1 := bk.cell 1
         have k2 := bk.cell 2
         have hba := hba.trans (hbx.mono hba.size)))
    go_ret
    exact ⟨rfl, hba⟩
  | false =>
  rw [g1] at HF
  rw [if_neg (by simp)]
  cases g2 : (!z && decide (s = [])) with
  | true =>
    rw [g2] at HE
    rw [if_pos rfl, bytes_assoc]
    show Calls _ _ _ _ fun e w' => e = .returned (.string (nm ++ ⟨#[32, 110, 111, 119, 104, 101, 114, 101]⟩)) ∧ Below w.heap.size w w'
    clear HR hl0 hsz g1 g2
    go_enter Tryz.func42, Tryz.ntmps42
    go_upto_region 1 with fail
    try rw [← hW]
    clear hW
    go_wp2_with (first
      | (go_at_call 73
         refine (HE.out _ hba).mono ?_
         rintro e wn ⟨rfl, hbx⟩
         have bk := bk.below hbx bk.lt
         have k0 := bk.cell 0
         have k1 := bk.cell 1
         have k2 := bk.cell 2
         have hba := hba.trans (hbx.mono hba.size))
      | (go_at_call 72
         refine (HF.out _ hba).mono ?_
         rintro e wn ⟨rfl, hbx⟩
         have bk := bk.below hbx bk.lt
         have k0 := bk.cell 0
         have k1 := bk.cell 1
         have k2 := bk.cell 2
         have hba := hba.trans (hbx.mono hba.size))
      | (go_at_call 71
         refine (HC.out _ hba).mono ?_
         rintro e wn ⟨rfl, hbx⟩
         have bk := bk.below hbx bk.lt
         have k0 := bk.cell 0
         have k1 := bk.cell 1
         have k2 := bk.cell 2
         have hba := hba.trans (hbx.mono hba.size)))
    go_ret
    exact ⟨rfl, hba⟩
  | false =>
  rw [g2] at HE
  rw [if_neg (by simp)]
  by_cases g3 : s = []
  · rw [if_pos g3, bytes_assoc]
    show Calls _ _ _ _ fun e w' => e = .returned (.string (nm ++ ⟨#[32, 97, 98, 115, 101, 110, 116]⟩)) ∧ Below w.heap.size w w'
    rw [decide_eq_true g3] at hl0
    clear HR hsz g1 g2 g3
    go_enter Tryz.func42, Tryz.ntmps42
    go_upto_region 1 with fail
    try rw [← hW]
    clear hW
    go_wp2_with (first
      | (go_at_call 73
         refine (HE.out _ hba).mono ?_
         rintro e wn ⟨rfl, hbx⟩
         have bk := bk.below hbx bk.lt
         have k0 := bk.cell 0
         have k1 := bk.cell 1
         have k2 := bk.cell 2
         have hba := hba.trans (hbx.mono hba.size))
      | (go_at_call 72
         refine (HF.out _ hba).mono ?_
         rintro e wn ⟨rfl, hbx⟩
         have bk := bk.below hbx bk.lt
         have k0 := bk.cell 0
         have k1 := bk.cell 1
         have k2 := bk.cell 2
         have hba := hba.trans (hbx.mono hba.size))
      | (go_at_call 71
         refine (HC.out _ hba).mono ?_
         rintro e wn ⟨rfl, hbx⟩
         have bk := bk.below hbx bk.lt
         have k0 := bk.cell 0
         have k1 := bk.cell 1
         have k2 := bk.cell 2
         have hba := hba.trans (hbx.mono hba.size)))
    go_ret
    exact ⟨rfl, hba⟩
  rw [if_neg g3]
  rw [decide_eq_false g3] at hl0
  clear g1 g2 g3
  have hR := hsz.out
  cases z with
  | true =>
    rw [if_pos rfl, bytes_assoc R, ← bytes_assoc]
    show Calls _ _ _ _ fun e w' => e = .returned (.string (nm ++ ⟨#[32]⟩ ++ R ++ ⟨#[32, 111, 114, 32, 97, 98, 115, 101, 110, 116]⟩)) ∧ Below w.heap.size w w'
    go_enter Tryz.func42, Tryz.ntmps42
    go_upto_region 1 with fail
    try rw [← hW]
    clear hW
    go_upto_region 9 with (first
      | (go_at_call 73
         refine (HE.out _ hba).mono ?_
         rintro e wn ⟨rfl, hbx⟩
         have bk := bk.below hbx bk.lt
         have k0 := bk.cell 0
         have k1 := bk.cell 1
         have k2 := bk.cell 2
         have hba := hba.trans (hbx.mono hba.size))
      | (go_at_call 72
         refine (HF.out _ hba).mono ?_
         rintro e wn ⟨rfl, hbx⟩
         have bk := bk.below hbx bk.lt
         have k0 := bk.cell 0
         have k1 := bk.cell 1
         have k2 := bk.cell 2
         have hba := hba.trans (hbx.mono hba.size))
      | (go_at_call 71
         refine (HC.out _ hba).mono ?_
         rintro e wn ⟨rfl, hbx⟩
         have bk := bk.below hbx bk.lt
         have k0 := bk.cell 0
         have k1 := bk.cell 1
         have k2 := bk.cell 2
         have hba := hba.trans (hbx.mono hba.size)))
    have q0 := cell_reg_ ((bk.cell 0).trans (show (#[.string nm, .slice A n c, .bool true] : Array Value)[0]? = some (.string nm) from rfl)) bk.lt
    have q1 := cell_reg_ ((bk.cell 1).trans (show (#[.string nm, .slice A n c, .bool true] : Array Value)[1]? = some (.slice A n c) from rfl)) bk.lt
    refine wp_region_grow [(29, isC (.string R))] [29]
      (by kernel_rfl) (by kernel_rfl) rfl (by kernel_rfl) (by kernel_rfl) ⟨isC_stable _, trivial⟩ ?_
    repeat (first
      | (refine lex_skip rfl ?_; simp only [Act.put, List.setIfInBounds_toArray, List.set_cons_zero, List.set_cons_succ])
      | (refine lex_quiet rfl rfl rfl (fun K hK => ?_); unfold Reg; go_big_quiet_op; refine hK _ ?_; clear hK K)
      | (refine lex_rel rfl rfl (fun w' hb9 hK => ?_) (fun v w' hb9 hv => ?_)
         · unfold grows
           go_simp
           go_at_call 74
           exact call_isC (HR.out w' (hba.trans (hb9.mono hba.size)))
         obtain rfl := hv
         simp only [Act.put, List.setIfInBounds_toArray, List.set_cons_zero, List.set_cons_succ]))
    refine lex_nil (fun w9 hC9 _ => ?_)
    have hb9 := reg_iff.1 hC9
    have bk := bk.below hb9 bk.lt
    have k2 := bk.cell 2
    clear hC9 q0 q1
    go_wp2
    go_ret
    exact ⟨rfl, hba.trans (hb9.mono hba.size)⟩
  | false =>
    rw [if_neg (by simp)]
    show Calls _ _ _ _ fun e w' => e = .returned (.string (nm ++ ⟨#[32]⟩ ++ R)) ∧ Below w.heap.size w w'
    go_enter Tryz.func42, Tryz.ntmps42
    go_upto_region 1 with fail
    try rw [← hW]
    clear hW
    go_upto_region 9 with (first
      | (go_at_call 73
         refine (HE.out _ hba).mono ?_
         rintro e wn ⟨rfl, hbx⟩
         have bk := bk.below hbx bk.lt
         have k0 := bk.cell 0
         have k1 := bk.cell 1
         have k2 := bk.cell 2
         have hba := hba.trans (hbx.mono hba.size))
      | (go_at_call 72
         refine (HF.out _ hba).mono ?_
         rintro e wn ⟨rfl, hbx⟩
         have bk := bk.below hbx bk.lt
         have k0 := bk.cell 0
         have k1 := bk.cell 1
         have k2 := bk.cell 2
         have hba := hba.trans (hbx.mono hba.size))
      | (go_at_call 71
         refine (HC.out _ hba).mono ?_
         rintro e wn ⟨rfl, hbx⟩
         have bk := bk.below hbx bk.lt
         have k0 := bk.cell 0
         have k1 := bk.cell 1
         have k2 := bk.cell 2
         have hba := hba.trans (hbx.mono hba.size)))
    have q0 := cell_reg_ ((bk.cell 0).trans (show (#[.string nm, .slice A n c, .bool false] : Array Value)[0]? = some (.string nm) from rfl)) bk.lt
    have q1 := cell_reg_ ((bk.cell 1).trans (show (#[.string nm, .slice A n c, .bool false] : Array Value)[1]? = some (.slice A n c) from rfl)) bk.lt
    refine wp_region_grow [(29, isC (.string R))] [29]
      (by kernel_rfl) (by kernel_rfl) rfl (by kernel_rfl) (by kernel_rfl) ⟨isC_stable _, trivial⟩ ?_
    repeat (first
      | (refine lex_skip rfl ?_; simp only [Act.put, List.setIfInBounds_toArray, List.set_cons_zero, List.set_cons_succ])
      | (refine lex_quiet rfl rfl rfl (fun K hK => ?_); unfold Reg; go_big_quiet_op; refine hK _ ?_; clear hK K)
      | (refine lex_rel rfl rfl (fun w' hb9 hK => ?_) (fun v w' hb9 hv => ?_)
         · unfold grows
           go_simp
           go_at_call 74
           exact call_isC (HR.out w' (hba.trans (hb9.mono hba.size)))
         obtain rfl := hv
         simp only [Act.put, List.setIfInBounds_toArray, List.set_cons_zero, List.set_cons_succ]))
    refine lex_nil (fun w9 hC9 _ => ?_)
    have hb9 := reg_iff.1 hC9
    have bk := bk.below hb9 bk.lt
    have k2 := bk.cell 2
    clear hC9 q0 q1
    go_wp2
    go_ret
    exact ⟨rfl, hba.trans (hb9.mono hba.size)⟩
end Go.Proofs.YtpicnbidbddggaaGreatDoor.Term
/-
  Contracts of the document's Same, Holds, Show and Find of clashes. Condition: the slices read as terms; for Holds sets; for Show at most 1,000 spans each, at most 1,000 terms.
-/
namespace Go.Proofs.YtpicnbidbddggaaGreatDoor.Clash
open Go.Proofs.YtpicnbidbddggaaGreatDoor.Pick (Pk PkOn getP refGetP_any)
open Go.Proofs.YtpicnbidbddggaaGreatDoor.Rule (showL show_len)
open Go Go.RowKit Go.Lib Go.Proofs.YtpicnbidbddggaaGreatDoor.Span Go.Proofs.YtpicnbidbddggaaGreatDoor.Need Go.Proofs.YtpicnbidbddggaaGreatDoor.Grow Go.Proofs.YtpicnbidbddggaaGreatDoor.Term
open Go.Proofs.YtpicnbidbddggaaGreatDoor.Label (runes fitL)
set_option linter.unusedVariables false
def ShortT (l : List Tm) : Prop := ∀ t ∈ l, t.set.length ≤ 1000000001
theorem FineT.short {l : List Tm} (h : FineT l) : ShortT l := fun t ht => (h t ht).2
theorem holdsT_is (q : St) (t : Tm) : holdsT q t = if (q t.name).isSome = true then has t.set ((q t.name).getD 0) else t.none := by
  unfold holdsT
  cases q t.name <;> simp
set_option maxHeartbeats 8000000 in
set_option maxRecDepth 100000 in
theorem refHoldsC_any (l : List Tm) (k : List Pk) (A Ak : Option Addr) (n c nk ck : Nat) (w : World) (h : TmOn w A n l) (hk : PkOn w Ak nk k) (hs : ∀ t ∈ l, isSet (-1) t.set = true) (hn : n ≤ 1000000) (hnk : nk ≤ 1000000) :
    Calls Tryz.prog 29 #[.slice A n c, .slice Ak nk ck] w fun e w' => e = .returned (.bool (holdsC (getP k) l)) ∧ Below w.heap.size w w' := by
  have hlen := hide h.len
  have Hd := hide (fun i t => @holds_drop (getP k) l t i)
  have Hend : Hid (holdsC (getP k) (l.drop n) = true) := hide (by rw [List.drop_of_length_le (by have := hlen.out; omega)]; rfl)
  obtain ⟨F, hF⟩ : ∃ F, F = holdsC (getP k) l := ⟨_, rfl⟩
  rw [← hF]
  have HF : Hid (F = holdsC (getP k) (l.drop 0)) := hide hF
  clear hF
  go_enter Tryz.func29, Tryz.ntmps29
  go_wp2
  go_loopw [5] (fun v wr => ∃ i : Nat, i ≤ n ∧ v = .int .i64 (i : Int) ∧ Hid (F = holdsC (getP k) (l.drop i)) ∧ Below w.heap.size w wr) (fun v _ => n - (RowKit.intOf v).toNat)
  case atStart => exact ⟨0, by omega, rfl, HF, Below.refl _ _⟩
  case round =>
    obtain ⟨i, hi, rfl, hf, hb⟩ := hrel
    have hbs := hb.size
    by_cases hlt : i < n
    · obtain ⟨ad, t, A1, n1, c1, rfl, hbl, hx, hst, p1, p2, p3⟩ := TmIn.at_ (TmIn.below h hb) hlt
      have hset := hs t (List.mem_of_getElem? hx)
      have hsl := len_le hset
      have g1 := hst.1
      have hd := hf.out.trans (Hd.out i t hx)
      rw [holdsT_is] at hd
      have HG := hide (refGetP_any k t.name Ak nk ck wr (hk.on hb) hnk)
      have HH : Hid (Calls Tryz.prog 52 #[.agg #[.string t.name, .slice A1 n1 c1, .bool t.none], .int .i64 ((getP k t.name).getD 0), .bool (getP k t.name).isSome] wr fun e w' => e = .returned (.bool (if (getP k t.name).isSome = true then has t.set ((getP k t.name).getD 0) else t.none)) ∧ Below wr.heap.size wr w') := hide (by
        have := refHasT_any t.name t.set t.none A1 n1 c1 wr (hst.more hbs) ((getP k t.name).getD 0) (getP k t.name).isSome (by omega) hset
        unfold Tells at this
        exact this)
      clear hx hst hset hsl g1 hf Hd Hend HF h hk hs
      generalize (if (getP k t.name).isSome = true then has t.set ((getP k t.name).getD 0) else t.none) = b at *
      generalize (getP k t.name).isSome = is at *
      generalize (getP k t.name).getD 0 = z at *
      cases b with
      | false =>
        have e : Hid (F = false) := hide (by rw [hd]; rfl)
        clear hd
        go_wp2_with (first
          | (go_at_call 51
             refine HG.out.mono ?_
             rintro e W0 ⟨rfl, rfl⟩)
          | (go_at_call 52
             refine HH.out.mono ?_
             rintro e w1 ⟨rfl, hb1⟩))
        go_ret
        exact ⟨by rw [e.out]; rfl, hb.trans (hb1.mono hbs)⟩
      | true =>
        have e : Hid (F = holdsC (getP k) (l.drop (i + 1))) := hide (by rw [hd]; rfl)
        clear hd
        go_wp2_with (first
          | (go_at_call 51
             refine HG.out.mono ?_
             rintro e W0 ⟨rfl, rfl⟩)
          | (go_at_call 52
             refine HH.out.mono ?_
             rintro e w1 ⟨rfl, hb1⟩))
        go_roundw
        case rel => exact ⟨i + 1, by omega, by go_num, e, hb.trans (hb1.mono hbs)⟩
        case measure => simp [RowKit.intOf]; omega
    · have hi2 : i = n := by omega
      have e : Hid (F = true) := hide (by rw [hf.out, hi2]; exact Hend.out)
      clear hf HF Hd Hend h
      go_wp2
      go_ret
      exact ⟨by rw [e.out]; rfl, hb⟩
theorem showT_size {t : Tm} (h : t.set.length ≤ 1000) : (showT t).size ≤ 300000 := by
  unfold showT
  split
  · rename_i g
    have h1 := Label.fit_small t.name (okT_fit g)
    have h2 : (statesT t).size ≤ 200000 := by obtain ⟨nm, s, z⟩ := t; exact states_small rfl h
    simp only [ByteArray.size_append]
    have e1 : wBlank.size = 1 := rfl
    omega
  · exact Nat.zero_le _
theorem more_drop {l : List Tm} {t : Tm} {i : Nat} {s : ByteArray} (h : l[i]? = some t) : moreC s (l.drop i) = moreC (s ++ wAnd ++ showT t) (l.drop (i + 1)) := by
  obtain ⟨hi, e⟩ := List.getElem?_eq_some_iff.1 h
  rw [List.drop_eq_getElem_cons hi, e]
  rfl
set_option maxHeartbeats 8000000 in
set_option maxRecDepth 100000 in
theorem refShowC_any (l : List Tm) (A : Option Addr) (n c : Nat) (w : World) (h : TmOn w A n l) (hl : ∀ t ∈ l, t.name.size ≤ 1000000000 ∧ t.set.length ≤ 1000) (hn : n ≤ 1000) :
    Calls Tryz.prog 24 #[.slice A n c] w fun e w' => e = .returned (.string (showC l)) ∧ Below w.heap.size w w' := by
  cases l with
  | nil =>
    have hn0 : n = 0 := h.len.symm
    subst hn0
    show Calls _ _ _ _ fun e w' => e = .returned (.string wAlways) ∧ Below w.heap.size w w'
    unfold wAlways
    go_enter Tryz.func24, Tryz.ntmps24
    go_wp2
    go_ret
    exact ⟨rfl, Below.refl _ _⟩
  | cons t0 r0 =>
  obtain ⟨l, hlr⟩ : ∃ l, l = t0 :: r0 := ⟨_, rfl⟩
  obtain ⟨M, hM⟩ : ∃ M, M = showC (t0 :: r0) := ⟨_, rfl⟩
  rw [← hM]
  have HM : Hid (moreC (showT t0) (l.drop 1) = M) := hide (by rw [hM, hlr]; rfl)
  have hlen : Hid (l.length = n) := hide (by rw [hlr]; exact h.len)
  have h0 : Hid (l[0]? = some t0) := hide (by rw [hlr]; rfl)
  rw [← hlr] at h hl
  have hn1 : 0 < n := by have := hlen.out; rw [hlr] at this; simp at this; omega
  clear hM hlr
  have HD := hide (fun (i : Nat) (t : Tm) (s : ByteArray) (hx : l[i]? = some t) => @more_drop l t i s hx)
  have Hend : ∀ s, Hid (moreC s (l.drop n) = s) := fun s => hide (by rw [List.drop_of_length_le (by have := hlen.out; omega)]; rfl)
  have HS := hide (fun (i : Nat) (t : Tm) (hx : l[i]? = some t) (A1 : Option Addr) (n1 c1 : Nat) (wx : World) (hsx : SpOn wx A1 n1 t.set) => (by
    obtain ⟨g1, g2⟩ := hl t (List.mem_of_getElem? hx)
    have := refShowT_any t.name t.set t.none A1 n1 c1 wx hsx (by have := hsx.len; omega) g1
    unfold Tells at this
    exact this : Calls Tryz.prog 42 #[.agg #[.string t.name, .slice A1 n1 c1, .bool t.none]] wx fun e w' => e = .returned (.string (showT t)) ∧ Below wx.heap.size wx w'))
  have HZ := hide (fun (i : Nat) (t : Tm) (hx : l[i]? = some t) => showT_size (hl t (List.mem_of_getElem? hx)).2)
  obtain ⟨ad, t, A1, n1, c1, rfl, hbl, hx, hst, p1, p2, p3⟩ := TmIn.at_ h hn1
  have htt : t = t0 := by have := h0.out; rw [hx] at this; injection this
  subst htt
  have HS0 := hide (HS.out 0 t hx A1 n1 c1 w hst)
  have HZ0 := hide (HZ.out 0 t hx)
  rw [Nat.zero_mul, add_zero'] at p1 p2 p3
  have hi2 : (0 : Int) < (n : Int) := by omega
  have hne : ((n : Int) == 0) = false := beq_eq_false_iff_ne.2 (by omega)
  clear hx hst h0 hl
  generalize showT t = S0 at *
  go_enter Tryz.func24, Tryz.ntmps24
  go_wp2_with (first
    | (go_at_call 42
       refine HS0.out.mono ?_
       rintro e w1 ⟨rfl, hb1⟩))
  clear p1 p2 p3 HS0
  go_loopw [3, 4] (fun u v wr => ∃ (i : Nat) (s : ByteArray), 1 ≤ i ∧ i ≤ n ∧ u = .string s ∧ v = .int .i64 (i : Int) ∧ Hid (moreC s (l.drop i) = M) ∧ s.size ≤ i * 400000 ∧ Below w.heap.size w wr) (fun _ v _ => n - (RowKit.intOf v).toNat)
  case atStart => exact ⟨1, S0, by omega, by omega, rfl, rfl, HM, by have := HZ0.out; omega, hb1⟩
  case round =>
    obtain ⟨i, s, hi0, hi, rfl, rfl, hM, hsz, hb⟩ := hrel
    have hbs := hb.size
    by_cases hlt : i < n
    · obtain ⟨ad', t', A2, n2, c2, e2, hbl', hx, hst, p1, p2, p3⟩ := TmIn.at_ (TmIn.below h hb) hlt
      injection e2 with e2
      subst e2
      have hd := (HD.out i t' s hx).symm.trans hM.out
      have hz := HZ.out i t' hx
      have HS1 := hide (HS.out i t' hx A2 n2 c2 wr (hst.more hbs))
      have E := hide hd
      clear hx hst hd hM
      generalize showT t' = S1 at *
      unfold wAnd at E
      have hs1 : s.size ≤ 400000000 := by have : i * 400000 ≤ 1000 * 400000 := Nat.mul_le_mul_right _ (by omega); omega
      have hs2 : (s ++ ⟨#[32, 38, 32]⟩ ++ S1).size ≤ (i + 1) * 400000 := by
        simp only [ByteArray.size_append]
        have : (⟨#[32, 38, 32]⟩ : ByteArray).size = 3 := rfl
        omega
      have Hs2 := hide hs2
      have Hsz := hide hsz
      clear hs2 hsz
      go_wp2_with (first
        | (go_at_call 42
           refine HS1.out.mono ?_
           rintro e w2 ⟨rfl, hb2⟩))
      go_roundw
      case rel => exact ⟨i + 1, _, by omega, by omega, rfl, by go_num, E, Hs2.out, hb.trans (hb2.mono hbs)⟩
      case measure => simp [RowKit.intOf]; omega
    · have hi2 : i = n := by omega
      have e : Hid (M = s) := hide (by rw [← hM.out, hi2]; exact (Hend s).out)
      clear hM HM HD HS HZ Hend
      go_wp2
      go_ret
      exact ⟨by rw [e.out]; rfl, hb⟩
theorem three_at {w0 w : World} {B g : Nat} (h : Below B w0 w) (hg : B ≤ g) (u v x : Value) : Below B w0 (((w.setCell ⟨g, 0, none⟩ u).setCell ⟨g, 1, none⟩ v).setCell ⟨g, 2, none⟩ x) :=
  ((h.setCell hg u).setCell hg v).setCell hg x
def FindsT (w : World) (t : Tm) (is : Bool) (e : Ending) (w' : World) : Prop := ∃ A n c, e = .returned (.tuple #[.agg #[.string t.name, .slice A n c, .bool t.none], .bool is]) ∧ SpOn w' A n t.set ∧ Below w.heap.size w w'
theorem results_row_tmp {P : Program} {fn : Func} {p u : Tmp} {ty : TypeId} (h : fn.results = #[.cell p ty, .tmp u]) (tmps : Array Value) (w : World) (g : Nat) (t : TypeId) (cs : Array Value) (fr : Nat × Nat) (d : TypeDesc) (v : Value)
    (hp : tmps.getD p undef = .pointer (some ⟨g, 0, none⟩)) (hv : tmps.getD u undef = v) (hg : w.heap[g]? = some (.cells cs t fr))
    (hu : P.underlying ty = some d) (hd : (match d with | .struct _ | .array _ _ => true | _ => false) = true) (hi : (P.info? ty).map (·.size) = some cs.size) :
    (results fn tmps).run P w = .ok (.tuple #[.agg cs, v]) w := by
  rw [results_cell_tmp h]
  simp only [hp, hv, asAddr, Sem.run_pure, Result.andThen_ok, run_loadVar_row w g t ty cs fr d hg hu hd hi]
end Go.Proofs.YtpicnbidbddggaaGreatDoor.Clash
/-
  Contracts of the document's Make and Join of clashes. Condition: terms that may be, of at most 10,000 spans together (for Join: 5,000), at most 1,000 of them.
-/
namespace Go.Proofs.YtpicnbidbddggaaGreatDoor.Clash
open Go.Proofs.YtpicnbidbddggaaGreatDoor.Pick (triP)
open Go Go.RowKit Go.Lib Go.Proofs.YtpicnbidbddggaaGreatDoor.Span Go.Proofs.YtpicnbidbddggaaGreatDoor.Need Go.Proofs.YtpicnbidbddggaaGreatDoor.Grow Go.Proofs.YtpicnbidbddggaaGreatDoor.Term
open Go.Proofs.YtpicnbidbddggaaGreatDoor.Label (runes fitL)
set_option linter.unusedVariables false
def MakesC (w : World) (r : Option (List Tm)) (e : Ending) (w' : World) : Prop := ∃ A n c, e = .returned (.tuple #[.slice A n c, .bool r.isSome]) ∧ TmOn w' A n (r.getD []) ∧ Below w.heap.size w w'
theorem own_one (w : World) (nm : ByteArray) (A : Option Addr) (n c : Nat) (z : Bool) (B : Nat) (hB : B ≤ w.heap.size) :
    (w.alloc (.cells #[.string nm, .slice A n c, .bool z] 63)).ownsRow B 63 3 (.slice (some ⟨w.heap.size, 0, none⟩) 1 1) 1 (tms [(nm, .slice A n c, z)]) :=
  ⟨rfl, .inr ⟨w.heap.size, 1, _, rfl, hB, heap_alloc_new w _, Nat.le_refl _, by decide, rfl, rfl⟩⟩
theorem left_step {P out : List Tm} {x : Tm} {i : Nat} {F : Option (List Tm)} (hF : (leftC (P.drop i)).map (fun q => out ++ q) = F) (hx : P[i]? = some x) :
    (emptyT x = true → F = none) ∧ (emptyT x = false → fullT x = true → (leftC (P.drop (i + 1))).map (fun q => out ++ q) = F) ∧ (emptyT x = false → fullT x = false → (leftC (P.drop (i + 1))).map (fun q => (out ++ [x]) ++ q) = F) := by
  rw [left_drop hx] at hF
  refine ⟨fun h => ?_, fun h h' => ?_, fun h h' => ?_⟩
  · rw [← hF, if_pos h]; rfl
  · rw [← hF, if_neg (by rw [h]; simp)]
    cases leftC (P.drop (i + 1)) <;> simp [h']
  · rw [← hF, if_neg (by rw [h]; simp)]
    cases leftC (P.drop (i + 1)) <;> simp [h']
end Go.Proofs.YtpicnbidbddggaaGreatDoor.Clash
