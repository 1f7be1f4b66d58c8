/-
  Some texts of this claim, one behind the other: TermShow. What each proves, and its condition, stands at its head.
-/
import Derived.Test.YtpicnbidbddggaaGreatY23
import Derived.Test.YtpicnbidbddggaaGreatY20
/-
  Contracts of the program's Show of a term (over states) and of the document's: the text that plain mathematics tells. Condition: at most 1,000 spans, a name of at most 1,000,000,000 bytes; the tables hold what the texts lay in them.
-/
namespace Go.Proofs.YtpicnbidbddggaaGreat.Term
open Go Go.RowKit Go.Lib Go.Proofs.YtpicnbidbddggaaGreat.Span Go.Proofs.YtpicnbidbddggaaGreat.Need Go.Proofs.YtpicnbidbddggaaGreat.Grow
open Go.Proofs.YtpicnbidbddggaaGreat.Label (runes fitL fit_any refFit_any)
open Go.Proofs.YtpicnbidbddggaaGreat.Ver (Tabs)
open Go.Proofs.YtpicnbidbddggaaGreat.Rule (showL refShow_any show_len)
set_option linter.unusedVariables false
theorem str_small {s : List S} {n : Nat} (h : s.length = n) (hn : n ≤ 1000) : (str (showL s)).size ≤ 100000 := by
  have := show_len s
  rw [str_size]
  omega
theorem bytes_assoc (a b c : ByteArray) : a ++ b ++ c = a ++ (b ++ c) := ByteArray.append_assoc
section
variable {nm : ByteArray} {s : List S} {z : Bool}
theorem ok_is : okT ⟨nm, s, z⟩ = (fitL (runes nm 0) && isSet (-1) s) := rfl
theorem full_is : fullT ⟨nm, s, z⟩ = (z && decide (s = allS)) := rfl
theorem empty_is : emptyT ⟨nm, s, z⟩ = (!z && decide (s = [])) := rfl
end
theorem states_small {nm : ByteArray} {s : List S} {z : Bool} {n : Nat} (h : s.length = n) (hn : n ≤ 1000) : (statesT ⟨nm, s, z⟩).size ≤ 200000 := by
  have := str_small h hn
  unfold statesT
  repeat' split
  · decide
  · decide
  · decide
  · simp only [ByteArray.size_append]
    have e1 : wOr.size = 4 := rfl
    have e2 : wAbsent.size = 6 := rfl
    omega
  · show (str (showL s)).size ≤ 200000
    omega
set_option maxHeartbeats 8000000 in
set_option maxRecDepth 100000 in
theorem refShowT_any (nm : ByteArray) (s : List S) (z : Bool) (A : Option Addr) (n c : Nat) (w : World) (h : SpOn w A n s) (hn : n ≤ 1000) (hnm : nm.size ≤ 1000000000) :
    Calls Tryz.prog 54 #[.agg #[.string nm, .slice A n c, .bool z]] w (Tells w (.string (showT ⟨nm, s, z⟩))) := by
  unfold Tells showT statesT
  rw [ok_is, full_is, empty_is]
  have hl0 := len_zero h
  have hsz := hide (str_small h.len.symm hn)
  have hsm := hide (Label.fit_small nm)
  have HC : Hid (∀ wx, Below w.heap.size w wx → Calls Tryz.prog 85 #[.agg #[.string nm, .slice A n c, .bool z]] wx fun e w' => e = .returned (.bool (fitL (runes nm 0) && isSet (-1) s)) ∧ Below wx.heap.size wx w') := hide (fun wx hbx => by
    have := refCheckT_any nm s z A n c wx (h.on hbx) hnm (by omega)
    first | (unfold Tells at this; exact this) | exact this)
  have HF : Hid (∀ wx, Below w.heap.size w wx → Calls Tryz.prog 65 #[.agg #[.string nm, .slice A n c, .bool z]] wx fun e w' => e = .returned (.bool (z && decide (s = allS))) ∧ Below wx.heap.size wx w') := hide (fun wx hbx => by
    have := refFullT_any nm s z A n c wx (h.on hbx) (by omega)
    first | (unfold Tells at this; exact this) | exact this)
  have HE : Hid (∀ wx, Below w.heap.size w wx → Calls Tryz.prog 64 #[.agg #[.string nm, .slice A n c, .bool z]] wx fun e w' => e = .returned (.bool (!z && decide (s = []))) ∧ Below wx.heap.size wx w') := hide (fun wx hbx => by
    have := refEmptyT_any nm s z A n c wx (h.on hbx)
    first | (unfold Tells at this; exact this) | exact this)
  have HR : Hid (∀ wx, Below w.heap.size w wx → Calls Tryz.prog 86 #[.slice A n c] wx fun e w' => e = .returned (.string (str (showL s))) ∧ Below wx.heap.size wx w') := hide (fun wx hbx => by
    have := refShow_any s A n c wx (h.on hbx) hn
    unfold Tells at this
    exact this)
  obtain ⟨W, hW⟩ : ∃ W, W = w.alloc (.cells #[.string nm, .slice A n c, .bool z] 65) := ⟨_, rfl⟩
  have hba : Below w.heap.size w W := by rw [hW]; exact alloc_b _
  have bk : Blk W w.heap.size 65 #[.string nm, .slice A n c, .bool z] := by rw [hW]; exact Blk.new _ _ _
  have k0 := bk.cell 0
  have k1 := bk.cell 1
  have k2 := bk.cell 2
  clear h hn hnm
  show Calls _ _ _ _ fun e w' => e = .returned (.string (if (fitL (runes nm 0) && isSet (-1) s) = true then nm ++ wBlank ++ (if (z && decide (s = allS)) = true then wFull else if (!z && decide (s = [])) = true then wEmpty else if s = [] then wAbsent else if z = true then str (showL s) ++ wOr ++ wAbsent else str (showL s)) else ⟨#[]⟩)) ∧ Below w.heap.size w w'
  generalize str (showL s) = R at *
  cases g : (fitL (runes nm 0) && isSet (-1) s) with
  | false =>
    rw [g] at HC
    rw [if_neg (by simp)]
    clear g HF HE HR hsz hsm hl0
    go_enter Tryz.func54, Tryz.ntmps54
    go_upto_region 1 with fail
    try rw [← hW]
    clear hW
    go_wp2_with (first
      | (go_at_call 85
         refine (HC.out _ hba).mono ?_
         rintro e wn ⟨rfl, hbx⟩
         have bk := bk.below hbx bk.lt
         have k0 := bk.cell 0
         have k1 := bk.cell 1
         have k2 := bk.cell 2
         have hba := hba.trans (hbx.mono hba.size)))
    go_ret
    exact ⟨rfl, hba⟩
  | true =>
  rw [g] at HC
  rw [if_pos rfl]
  have hnm : nm.size ≤ 48 := hsm.out (by simp only [Bool.and_eq_true] at g; exact g.1)
  clear g hsm
  cases g1 : (z && decide (s = allS)) with
  | true =>
    rw [g1] at HF
    rw [if_pos rfl, bytes_assoc]
    show Calls _ _ _ _ fun e w' => e = .returned (.string (nm ++ ⟨#[32, 119, 104, 97, 116, 101, 118, 101, 114]⟩)) ∧ Below w.heap.size w w'
    clear HE HR hl0 hsz g1
    go_enter Tryz.func54, Tryz.ntmps54
    go_upto_region 1 with fail
    try rw [← hW]
    clear hW
    go_wp2_with (first
      | (go_at_call 65
         refine (HF.out _ hba).mono ?_
         rintro e wn ⟨rfl, hbx⟩
         have bk := bk.below hbx bk.lt
         have k0 := bk.cell 0
         have k1 := bk.cell 1
         have k2 := bk.cell 2
         have hba := hba.trans (hbx.mono hba.size))
      | (go_at_call 85
         refine (HC.out _ hba).mono ?_
         rintro e wn ⟨rfl, hbx⟩
         have bk := bk.below hbx bk.lt
         have k0 := bk.cell 0
         have k1 := bk.cell 1
         have k2 := bk.cell 2
         have hba := hba.trans (hbx.mono hba.size)))
    go_ret
    exact ⟨rfl, hba⟩
  | false =>
  rw [g1] at HF
  rw [if_neg (by simp)]
  cases g2 : (!z && decide (s = [])) with
  | true =>
    rw [g2] at HE
    rw [if_pos rfl, bytes_assoc]
    show Calls _ _ _ _ fun e w' => e = .returned (.string (nm ++ ⟨#[32, 110, 111, 119, 104, 101, 114, 101]⟩)) ∧ Below w.heap.size w w'
    clear HR hl0 hsz g1 g2
    go_enter Tryz.func54, Tryz.ntmps54
    go_upto_region 1 with fail
    try rw [← hW]
    clear hW
    go_wp2_with (first
      | (go_at_call 64
         refine (HE.out _ hba).mono ?_
         rintro e wn ⟨rfl, hbx⟩
         have bk := bk.below hbx bk.lt
         have k0 := bk.cell 0
         have k1 := bk.cell 1
         have k2 := bk.cell 2
         have hba := hba.trans (hbx.mono hba.size))
      | (go_at_call 65
         refine (HF.out _ hba).mono ?_
         rintro e wn ⟨rfl, hbx⟩
         have bk := bk.below hbx bk.lt
         have k0 := bk.cell 0
         have k1 := bk.cell 1
         have k2 := bk.cell 2
         have hba := hba.trans (hbx.mono hba.size))
      | (go_at_call 85
         refine (HC.out _ hba).mono ?_
         rintro e wn ⟨rfl, hbx⟩
         have bk := bk.below hbx bk.lt
         have k0 := bk.cell 0
         have k1 := bk.cell 1
         have k2 := bk.cell 2
         have hba := hba.trans (hbx.mono hba.size)))
    go_ret
    exact ⟨rfl, hba⟩
  | false =>
  rw [g2] at HE
  rw [if_neg (by simp)]
  by_cases g3 : s = []
  · rw [if_pos g3, bytes_assoc]
    show Calls _ _ _ _ fun e w' => e = .returned (.string (nm ++ ⟨#[32, 97, 98, 115, 101, 110, 116]⟩)) ∧ Below w.heap.size w w'
    rw [decide_eq_true g3] at hl0
    clear HR hsz g1 g2 g3
    go_enter Tryz.func54, Tryz.ntmps54
    go_upto_region 1 with fail
    try rw [← hW]
    clear hW
    go_wp2_with (first
      | (go_at_call 64
         refine (HE.out _ hba).mono ?_
         rintro e wn ⟨rfl, hbx⟩
         have bk := bk.below hbx bk.lt
         have k0 := bk.cell 0
         have k1 := bk.cell 1
         have k2 := bk.cell 2
         have hba := hba.trans (hbx.mono hba.size))
      | (go_at_call 65
         refine (HF.out _ hba).mono ?_
         rintro e wn ⟨rfl, hbx⟩
         have bk := bk.below hbx bk.lt
         have k0 := bk.cell 0
         have k1 := bk.cell 1
         have k2 := bk.cell 2
         have hba := hba.trans (hbx.mono hba.size))
      | (go_at_call 85
         refine (HC.out _ hba).mono ?_
         rintro e wn ⟨rfl, hbx⟩
         have bk := bk.below hbx bk.lt
         have k0 := bk.cell 0
         have k1 := bk.cell 1
         have k2 := bk.cell 2
         have hba := hba.trans (hbx.mono hba.size)))
    go_ret
    exact ⟨rfl, hba⟩
  rw [if_neg g3]
  rw [decide_eq_false g3] at hl0
  clear g1 g2 g3
  have hR := hsz.out
  cases z with
  | true =>
    rw [if_pos rfl, bytes_assoc R, ← bytes_assoc]
    show Calls _ _ _ _ fun e w' => e = .returned (.string (nm ++ ⟨#[32]⟩ ++ R ++ ⟨#[32, 111, 114, 32, 97, 98, 115, 101, 110, 116]⟩)) ∧ Below w.heap.size w w'
    go_enter Tryz.func54, Tryz.ntmps54
    go_upto_region 1 with fail
    try rw [← hW]
    clear hW
    go_upto_region 9 with (first
      | (go_at_call 64
         refine (HE.out _ hba).mono ?_
         rintro e wn ⟨rfl, hbx⟩
         have bk := bk.below hbx bk.lt
         have k0 := bk.cell 0
         have k1 := bk.cell 1
         have k2 := bk.cell 2
         have hba := hba.trans (hbx.mono hba.size))
      | (go_at_call 65
         refine (HF.out _ hba).mono ?_
         rintro e wn ⟨rfl, hbx⟩
         have bk := bk.below hbx bk.lt
         have k0 := bk.cell 0
         have k1 := bk.cell 1
         have k2 := bk.cell 2
         have hba := hba.trans (hbx.mono hba.size))
      | (go_at_call 85
         refine (HC.out _ hba).mono ?_
         rintro e wn ⟨rfl, hbx⟩
         have bk := bk.below hbx bk.lt
         have k0 := bk.cell 0
         have k1 := bk.cell 1
         have k2 := bk.cell 2
         have hba := hba.trans (hbx.mono hba.size)))
    have q0 := cell_reg_ ((bk.cell 0).trans (show (#[.string nm, .slice A n c, .bool true] : Array Value)[0]? = some (.string nm) from rfl)) bk.lt
    have q1 := cell_reg_ ((bk.cell 1).trans (show (#[.string nm, .slice A n c, .bool true] : Array Value)[1]? = some (.slice A n c) from rfl)) bk.lt
    refine wp_region_grow [(29, isC (.string R))] [29]
      (by kernel_rfl) (by kernel_rfl) rfl (by kernel_rfl) (by kernel_rfl) ⟨isC_stable _, trivial⟩ ?_
    repeat (first
      | (refine lex_skip rfl ?_; simp only [Act.put, List.setIfInBounds_toArray, List.set_cons_zero, List.set_cons_succ])
      | (refine lex_quiet rfl rfl rfl (fun K hK => ?_); unfold Reg; go_big_quiet_op; refine hK _ ?_; clear hK K)
      | (refine lex_rel rfl rfl (fun w' hb9 hK => ?_) (fun v w' hb9 hv => ?_)
         · unfold grows
           go_simp
           go_at_call 86
           exact call_isC (HR.out w' (hba.trans (hb9.mono hba.size)))
         obtain rfl := hv
         simp only [Act.put, List.setIfInBounds_toArray, List.set_cons_zero, List.set_cons_succ]))
    refine lex_nil (fun w9 hC9 _ => ?_)
    have hb9 := reg_iff.1 hC9
    have bk := bk.below hb9 bk.lt
    have k2 := bk.cell 2
    clear hC9 q0 q1
    go_wp2
    go_ret
    exact ⟨rfl, hba.trans (hb9.mono hba.size)⟩
  | false =>
    rw [if_neg (by simp)]
    show Calls _ _ _ _ fun e w' => e = .returned (.string (nm ++ ⟨#[32]⟩ ++ R)) ∧ Below w.heap.size w w'
    go_enter Tryz.func54, Tryz.ntmps54
    go_upto_region 1 with fail
    try rw [← hW]
    clear hW
    go_upto_region 9 with (first
      | (go_at_call 64
         refine (HE.out _ hba).mono ?_
         rintro e wn ⟨rfl, hbx⟩
         have bk := bk.below hbx bk.lt
         have k0 := bk.cell 0
         have k1 := bk.cell 1
         have k2 := bk.cell 2
         have hba := hba.trans (hbx.mono hba.size))
      | (go_at_call 65
         refine (HF.out _ hba).mono ?_
         rintro e wn ⟨rfl, hbx⟩
         have bk := bk.below hbx bk.lt
         have k0 := bk.cell 0
         have k1 := bk.cell 1
         have k2 := bk.cell 2
         have hba := hba.trans (hbx.mono hba.size))
      | (go_at_call 85
         refine (HC.out _ hba).mono ?_
         rintro e wn ⟨rfl, hbx⟩
         have bk := bk.below hbx bk.lt
         have k0 := bk.cell 0
         have k1 := bk.cell 1
         have k2 := bk.cell 2
         have hba := hba.trans (hbx.mono hba.size)))
    have q0 := cell_reg_ ((bk.cell 0).trans (show (#[.string nm, .slice A n c, .bool false] : Array Value)[0]? = some (.string nm) from rfl)) bk.lt
    have q1 := cell_reg_ ((bk.cell 1).trans (show (#[.string nm, .slice A n c, .bool false] : Array Value)[1]? = some (.slice A n c) from rfl)) bk.lt
    refine wp_region_grow [(29, isC (.string R))] [29]
      (by kernel_rfl) (by kernel_rfl) rfl (by kernel_rfl) (by kernel_rfl) ⟨isC_stable _, trivial⟩ ?_
    repeat (first
      | (refine lex_skip rfl ?_; simp only [Act.put, List.setIfInBounds_toArray, List.set_cons_zero, List.set_cons_succ])
      | (refine lex_quiet rfl rfl rfl (fun K hK => ?_); unfold Reg; go_big_quiet_op; refine hK _ ?_; clear hK K)
      | (refine lex_rel rfl rfl (fun w' hb9 hK => ?_) (fun v w' hb9 hv => ?_)
         · unfold grows
           go_simp
           go_at_call 86
           exact call_isC (HR.out w' (hba.trans (hb9.mono hba.size)))
         obtain rfl := hv
         simp only [Act.put, List.setIfInBounds_toArray, List.set_cons_zero, List.set_cons_succ]))
    refine lex_nil (fun w9 hC9 _ => ?_)
    have hb9 := reg_iff.1 hC9
    have bk := bk.below hb9 bk.lt
    have k2 := bk.cell 2
    clear hC9 q0 q1
    go_wp2
    go_ret
    exact ⟨rfl, hba.trans (hb9.mono hba.size)⟩
end Go.Proofs.YtpicnbidbddggaaGreat.Term
