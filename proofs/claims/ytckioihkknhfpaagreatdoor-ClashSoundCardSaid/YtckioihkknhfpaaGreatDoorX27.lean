/-
  Some texts of this claim, one behind the other: TermShow. What each proves, and its condition, stands at its head.
-/
import Derived.Test.YtckioihkknhfpaaGreatDoorX18
import Derived.Test.YtckioihkknhfpaaGreatDoorX26
/-
  Contracts of the program's Show of a term (over states) and of the document's: the text that plain mathematics tells. Condition: at most 1,000 spans, a name of at most 1,000,000,000 bytes; the tables hold what the texts lay in them.
-/
namespace Go.Proofs.YtckioihkknhfpaaGreatDoor.Term
open Go Go.RowKit Go.Lib Go.Proofs.YtckioihkknhfpaaGreatDoor.Span Go.Proofs.YtckioihkknhfpaaGreatDoor.Need Go.Proofs.YtckioihkknhfpaaGreatDoor.Grow
open Go.Proofs.YtckioihkknhfpaaGreatDoor.Label (runes fitL fit_any refFit_any)
open Go.Proofs.YtckioihkknhfpaaGreatDoor.Ver (Tabs)
open Go.Proofs.YtckioihkknhfpaaGreatDoor.Rule (showL Show_any refShow_any show_len)
set_option linter.unusedVariables false
theorem str_small {s : List S} {n : Nat} (h : s.length = n) (hn : n ≤ 1000) : (str (showL s)).size ≤ 100000 := by
  have := show_len s
  rw [str_size]
  omega
section
variable {nm : ByteArray} {s : List S} {z : Bool}
theorem ok_is : okT ⟨nm, s, z⟩ = (fitL (runes nm 0) && isSet (-1) s) := rfl
theorem full_is : fullT ⟨nm, s, z⟩ = (z && decide (s = allS)) := rfl
theorem empty_is : emptyT ⟨nm, s, z⟩ = (!z && decide (s = [])) := rfl
end
set_option maxHeartbeats 4000000 in
set_option maxRecDepth 100000 in
theorem states_any (nm : ByteArray) (s : List S) (z : Bool) (A : Option Addr) (n c : Nat) (w : World) (h : SpOn w A n s) (hn : n ≤ 1000) (hT : Tabs w) :
    Calls Tryz.prog 59 #[.agg #[.string nm, .slice A n c, .bool z]] w fun e w' => e = .returned (.string (statesT ⟨nm, s, z⟩)) ∧ Below w.heap.size w w' := by
  have hsz := hide (str_small h.len.symm hn)
  unfold statesT
  rw [full_is, empty_is]
  have hl0 := len_zero h
  have HF : Hid (∀ wx, Below w.heap.size w wx → Calls Tryz.prog 28 #[.agg #[.string nm, .slice A n c, .bool z]] wx fun e w' => e = .returned (.bool (z && decide (s = allS))) ∧ Below wx.heap.size wx w') := hide (fun wx hbx => by
    have := fullT_any nm s z A n c wx (h.on hbx) (by omega)
    first | (unfold Tells at this; exact this) | exact this)
  have HE : Hid (∀ wx, Below w.heap.size w wx → Calls Tryz.prog 29 #[.agg #[.string nm, .slice A n c, .bool z]] wx fun e w' => e = .returned (.bool (!z && decide (s = []))) ∧ Below wx.heap.size wx w') := hide (fun wx hbx => by
    have := emptyT_any nm s z A n c wx (h.on hbx)
    first | (unfold Tells at this; exact this) | exact this)
  have HR : Hid (∀ wx, Below w.heap.size w wx → Calls Tryz.prog 84 #[.slice A n c] wx fun e w' => e = .returned (.string (str (showL s))) ∧ Below wx.heap.size wx w') := hide (fun wx hbx => by
    have := Show_any s A n c wx (h.on hbx) hn (hT.below hbx)
    unfold Tells at this
    exact this)
  obtain ⟨W, hW⟩ : ∃ W, W = w.alloc (.cells #[.string nm, .slice A n c, .bool z] 30) := ⟨_, rfl⟩
  have hba : Below w.heap.size w W := by rw [hW]; exact alloc_b _
  have bk : Blk W w.heap.size 30 #[.string nm, .slice A n c, .bool z] := by rw [hW]; exact Blk.new _ _ _
  have k0 := bk.cell 0
  have k1 := bk.cell 1
  have k2 := bk.cell 2
  clear hT h
  show Calls _ _ _ _ fun e w' => e = .returned (.string (if (z && decide (s = allS)) = true then wFull else if (!z && decide (s = [])) = true then wEmpty else if s = [] then wAbsent else if z = true then str (showL s) ++ wOr ++ wAbsent else str (showL s))) ∧ Below w.heap.size w w'
  generalize str (showL s) = R at *
  cases g1 : (z && decide (s = allS)) with
  | true =>
    rw [g1] at HF
    rw [if_pos rfl]
    clear HE HR hl0 hsz g1
    go_enter Tryz.func59, Tryz.ntmps59
    go_upto_region 1 with fail
    try rw [← hW]
    clear hW
    go_wp2_with (first
      | (go_at_call 28
         refine (HF.out _ hba).mono ?_
         rintro e wn ⟨rfl, hbx⟩
         have bk := bk.below hbx bk.lt
         have k0 := bk.cell 0
         have k1 := bk.cell 1
         have k2 := bk.cell 2
         have hba := hba.trans (hbx.mono hba.size)))
    go_ret
    exact ⟨rfl, hba⟩
  | false =>
  rw [g1] at HF
  rw [if_neg (by simp)]
  cases g2 : (!z && decide (s = [])) with
  | true =>
    rw [g2] at HE
    rw [if_pos rfl]
    clear HR hl0 hsz g1 g2
    go_enter Tryz.func59, Tryz.ntmps59
    go_upto_region 1 with fail
    try rw [← hW]
    clear hW
    go_wp2_with (first
      | (go_at_call 29
         refine (HE.out _ hba).mono ?_
         rintro e wn ⟨rfl, hbx⟩
         have bk := bk.below hbx bk.lt
         have k0 := bk.cell 0
         have k1 := bk.cell 1
         have k2 := bk.cell 2
         have hba := hba.trans (hbx.mono hba.size))
      | (go_at_call 28
         refine (HF.out _ hba).mono ?_
         rintro e wn ⟨rfl, hbx⟩
         have bk := bk.below hbx bk.lt
         have k0 := bk.cell 0
         have k1 := bk.cell 1
         have k2 := bk.cell 2
         have hba := hba.trans (hbx.mono hba.size)))
    go_ret
    exact ⟨rfl, hba⟩
  | false =>
  rw [g2] at HE
  rw [if_neg (by simp)]
  by_cases g3 : s = []
  · rw [if_pos g3]
    rw [decide_eq_true g3] at hl0
    clear HR hsz g1 g2 g3
    go_enter Tryz.func59, Tryz.ntmps59
    go_upto_region 1 with fail
    try rw [← hW]
    clear hW
    go_wp2_with (first
      | (go_at_call 29
         refine (HE.out _ hba).mono ?_
         rintro e wn ⟨rfl, hbx⟩
         have bk := bk.below hbx bk.lt
         have k0 := bk.cell 0
         have k1 := bk.cell 1
         have k2 := bk.cell 2
         have hba := hba.trans (hbx.mono hba.size))
      | (go_at_call 28
         refine (HF.out _ hba).mono ?_
         rintro e wn ⟨rfl, hbx⟩
         have bk := bk.below hbx bk.lt
         have k0 := bk.cell 0
         have k1 := bk.cell 1
         have k2 := bk.cell 2
         have hba := hba.trans (hbx.mono hba.size)))
    go_ret
    exact ⟨rfl, hba⟩
  rw [if_neg g3]
  rw [decide_eq_false g3] at hl0
  cases z with
  | true =>
    rw [if_pos rfl]
    clear g1 g2 g3
    have hszR := hsz.out
    go_enter Tryz.func59, Tryz.ntmps59
    go_upto_region 1 with fail
    try rw [← hW]
    clear hW
    go_wp2_with (first
      | (go_at_call 84
         refine (HR.out _ hba).mono ?_
         rintro e wn ⟨rfl, hbx⟩
         have bk := bk.below hbx bk.lt
         have k0 := bk.cell 0
         have k1 := bk.cell 1
         have k2 := bk.cell 2
         have hba := hba.trans (hbx.mono hba.size))
      | (go_at_call 29
         refine (HE.out _ hba).mono ?_
         rintro e wn ⟨rfl, hbx⟩
         have bk := bk.below hbx bk.lt
         have k0 := bk.cell 0
         have k1 := bk.cell 1
         have k2 := bk.cell 2
         have hba := hba.trans (hbx.mono hba.size))
      | (go_at_call 28
         refine (HF.out _ hba).mono ?_
         rintro e wn ⟨rfl, hbx⟩
         have bk := bk.below hbx bk.lt
         have k0 := bk.cell 0
         have k1 := bk.cell 1
         have k2 := bk.cell 2
         have hba := hba.trans (hbx.mono hba.size)))
    go_ret
    exact ⟨rfl, hba⟩
  | false =>
    rw [if_neg (by simp)]
    clear g1 g2 g3
    have hszR := hsz.out
    go_enter Tryz.func59, Tryz.ntmps59
    go_upto_region 1 with fail
    try rw [← hW]
    clear hW
    go_wp2_with (first
      | (go_at_call 84
         refine (HR.out _ hba).mono ?_
         rintro e wn ⟨rfl, hbx⟩
         have bk := bk.below hbx bk.lt
         have k0 := bk.cell 0
         have k1 := bk.cell 1
         have k2 := bk.cell 2
         have hba := hba.trans (hbx.mono hba.size))
      | (go_at_call 29
         refine (HE.out _ hba).mono ?_
         rintro e wn ⟨rfl, hbx⟩
         have bk := bk.below hbx bk.lt
         have k0 := bk.cell 0
         have k1 := bk.cell 1
         have k2 := bk.cell 2
         have hba := hba.trans (hbx.mono hba.size))
      | (go_at_call 28
         refine (HF.out _ hba).mono ?_
         rintro e wn ⟨rfl, hbx⟩
         have bk := bk.below hbx bk.lt
         have k0 := bk.cell 0
         have k1 := bk.cell 1
         have k2 := bk.cell 2
         have hba := hba.trans (hbx.mono hba.size)))
    go_ret
    exact ⟨rfl, hba⟩
theorem states_small {nm : ByteArray} {s : List S} {z : Bool} {n : Nat} (h : s.length = n) (hn : n ≤ 1000) : (statesT ⟨nm, s, z⟩).size ≤ 200000 := by
  have := str_small h hn
  unfold statesT
  repeat' split
  · decide
  · decide
  · decide
  · simp only [ByteArray.size_append]
    have e1 : wOr.size = 4 := rfl
    have e2 : wAbsent.size = 6 := rfl
    omega
  · show (str (showL s)).size ≤ 200000
    omega
set_option maxHeartbeats 4000000 in
set_option maxRecDepth 100000 in
theorem showT_any (nm : ByteArray) (s : List S) (z : Bool) (A : Option Addr) (n c : Nat) (w : World) (h : SpOn w A n s) (hn : n ≤ 1000) (hnm : nm.size ≤ 1000000000) (hT : Tabs w) :
    Calls Tryz.prog 34 #[.agg #[.string nm, .slice A n c, .bool z]] w (Tells w (.string (showT ⟨nm, s, z⟩))) := by
  unfold Tells showT
  rw [ok_is]
  have hss := hide (@states_small nm s z n h.len.symm hn)
  have hsm := hide (Label.fit_small nm)
  have HC := hide (fun (wx : World) (hbx : Below w.heap.size w wx) => checkT_any nm s z A n c wx (h.on hbx) (by omega) (by omega))
  have HS := hide (fun (wx : World) (hbx : Below w.heap.size w wx) => states_any nm s z A n c wx (h.on hbx) hn (hT.below hbx))
  unfold Tells at HC
  obtain ⟨W, hW⟩ : ∃ W, W = w.alloc (.cells #[.string nm, .slice A n c, .bool z] 30) := ⟨_, rfl⟩
  have hba : Below w.heap.size w W := by rw [hW]; exact alloc_b _
  have bk : Blk W w.heap.size 30 #[.string nm, .slice A n c, .bool z] := by rw [hW]; exact Blk.new _ _ _
  have k0 := bk.cell 0
  have k1 := bk.cell 1
  have k2 := bk.cell 2
  clear h hT hn hnm
  cases g : (fitL (runes nm 0) && isSet (-1) s) with
  | false =>
    rw [g] at HC
    rw [if_neg (by simp)]
    clear g HS hss hsm
    go_enter Tryz.func34, Tryz.ntmps34
    go_upto_region 1 with fail
    try rw [← hW]
    clear hW
    go_wp2_with (first
      | (go_at_call 27
         refine (HC.out _ hba).mono ?_
         rintro e wn ⟨rfl, hbx⟩
         have bk := bk.below hbx bk.lt
         have k0 := bk.cell 0
         have k1 := bk.cell 1
         have k2 := bk.cell 2
         have hba := hba.trans (hbx.mono hba.size)))
    go_ret
    exact ⟨rfl, hba⟩
  | true =>
    rw [g] at HC
    rw [if_pos rfl]
    have hnm : nm.size ≤ 48 := hsm.out (by simp only [Bool.and_eq_true] at g; exact g.1)
    show Calls _ _ _ _ fun e w' => e = .returned (.string (nm ++ wBlank ++ statesT ⟨nm, s, z⟩)) ∧ Below w.heap.size w w'
    generalize statesT ⟨nm, s, z⟩ = R at *
    clear g hsm
    have hR := hss.out
    unfold wBlank
    go_enter Tryz.func34, Tryz.ntmps34
    go_upto_region 1 with fail
    try rw [← hW]
    clear hW
    go_upto_region 3 with (first
      | (go_at_call 27
         refine (HC.out _ hba).mono ?_
         rintro e wn ⟨rfl, hbx⟩
         have bk := bk.below hbx bk.lt
         have k0 := bk.cell 0
         have k1 := bk.cell 1
         have k2 := bk.cell 2
         have hba := hba.trans (hbx.mono hba.size)))
    have q0 := cell_reg_ ((bk.cell 0).trans (show (#[.string nm, .slice A n c, .bool z] : Array Value)[0]? = some (.string nm) from rfl)) bk.lt
    have q1 := cell_reg_ ((bk.cell 1).trans (show (#[.string nm, .slice A n c, .bool z] : Array Value)[1]? = some (.slice A n c) from rfl)) bk.lt
    have q2 := cell_reg_ ((bk.cell 2).trans (show (#[.string nm, .slice A n c, .bool z] : Array Value)[2]? = some (.bool z) from rfl)) bk.lt
    refine wp_region_grow [(10, isC (.string R))] [10]
      (by kernel_rfl) (by kernel_rfl) rfl (by kernel_rfl) (by kernel_rfl) ⟨isC_stable _, trivial⟩ ?_
    repeat (first
      | (refine lex_skip rfl ?_; simp only [Act.put, List.setIfInBounds_toArray, List.set_cons_zero, List.set_cons_succ])
      | (refine lex_quiet rfl rfl rfl (fun K hK => ?_); unfold Reg; go_big_quiet_op; refine hK _ ?_; clear hK K)
      | (refine lex_rel rfl rfl (fun w' hb9 hK => ?_) (fun v w' hb9 hv => ?_)
         · unfold grows
           go_simp
           go_at_call 59
           exact call_isC (HS.out w' (hba.trans (hb9.mono hba.size)))
         obtain rfl := hv
         simp only [Act.put, List.setIfInBounds_toArray, List.set_cons_zero, List.set_cons_succ]))
    refine lex_nil (fun w9 hC9 _ => ?_)
    have hb9 := reg_iff.1 hC9
    clear hC9 q0 q1 q2
    go_wp2
    go_ret
    exact ⟨rfl, hba.trans (hb9.mono hba.size)⟩
end Go.Proofs.YtckioihkknhfpaaGreatDoor.Term
