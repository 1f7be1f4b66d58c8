/-
  Some texts of this claim, one behind the other: PickRefCheck, ProofRefCheck. What each proves, and its condition, stands at its head.
-/
import Derived.Test.YtdmejcfnolhplaaGreatZA25
import Derived.Test.YtdmejcfnolhplaaGreatZA24
import Derived.Test.YtdmejcfnolhplaaGreatZA7
import Derived.Test.YtdmejcfnolhplaaGreatZA20
import Derived.Test.YtdmejcfnolhplaaGreatZA46
/-
  The contract of the document's Check: which picks may be. Condition: names of at most 1,000,000,000 bytes.
-/
namespace Go.Proofs.YtdmejcfnolhplaaGreat.Pick
open Go Go.RowKit Go.Lib Go.Proofs.YtdmejcfnolhplaaGreat.Need Go.Proofs.YtdmejcfnolhplaaGreat.Grow
open Go.Proofs.YtdmejcfnolhplaaGreat.Label (runes fitL refFit_any)
open Go.Proofs.YtdmejcfnolhplaaGreat.Ver (refFit_yes refFit_no)
set_option linter.unusedVariables false
theorem refVFit_any (p : Int) (w : World) : Calls Tryz.prog 34 #[.int .i64 p] w fun e w' => e = .returned (.bool (verOk p)) ∧ w = w' := by
  unfold verOk
  by_cases h : 0 ≤ p ∧ p < 1000000000
  · rw [decide_eq_true h]; exact refFit_yes p w h.1 h.2
  · rw [decide_eq_false h]; exact refFit_no p w h
end Go.Proofs.YtdmejcfnolhplaaGreat.Pick
/-
  The contracts of the document's own may and Check: which steps, and which proofs, may be. Condition: names of at most 1,000,000,000 bytes.
-/
namespace Go.Proofs.YtdmejcfnolhplaaGreat.Proof
open Go Go.RowKit Go.Lib Go.Proofs.YtdmejcfnolhplaaGreat.Need
open Go.Proofs.YtdmejcfnolhplaaGreat.Label (runes fitL refFit_any)
open Go.Proofs.YtdmejcfnolhplaaGreat.Pick (refVFit_any)
set_option linter.unusedVariables false
set_option linter.unusedSimpArgs false
theorem empty_list : ByteArray.empty.toList = [] := by rw [Lib.toList_data]; rfl
theorem eq_empty {d : ByteArray} (h : d.toList = []) : d = ByteArray.empty := by
  have := eq_names d ByteArray.empty
  rw [h, empty_list] at this
  exact of_decide_eq_true this.symm
set_option maxHeartbeats 8000000 in
set_option maxRecDepth 100000 in
theorem refMayPf_any (s : Sp) (i : Nat) (w : World) (h1 : s.name.size ≤ 1000000000) (h2 : s.dest.size ≤ 1000000000) :
    Calls Tryz.prog 29 #[.agg #[.int .i64 s.kind, .string s.name, .int .i64 s.ver, .string s.dest, .int .i64 s.a, .int .i64 s.b], .int .i64 (i : Int)] w fun e w' => e = .returned (.bool (mayS s i)) ∧ Below w.heap.size w w' := by
  obtain ⟨k, nm, v, d, a, b⟩ := s
  simp only [] at h1 h2
  have HN := hide (fun (wx : World) => refFit_any nm wx h1)
  have HD := hide (fun (wx : World) => refFit_any d wx h2)
  have HV := hide (fun (wx : World) => refVFit_any v wx)
  have HM : Hid (mayS ⟨k, nm, v, d, a, b⟩ i = (((decide (1 ≤ k ∧ k ≤ 4) && fitL (runes nm 0)) && (if k = 3 then fitL (runes d 0) && Pick.verOk v else decide (d = ByteArray.empty) && decide (v = 0))) && (if k = 4 then decide (0 ≤ a ∧ a < i ∧ 0 ≤ b ∧ b < i) else decide (a = 0 ∧ b = 0)))) := hide rfl
  generalize mayS ⟨k, nm, v, d, a, b⟩ i = M at *
  generalize fitL (runes nm 0) = y at *
  generalize fitL (runes d 0) = z at *
  generalize Pick.verOk v = u at *
  clear h1 h2
  go_enter Tryz.func29, Tryz.ntmps29
  by_cases hk1 : k < 1
  · have hk : ¬ (1 ≤ k ∧ k ≤ 4) := by omega
    have E : Hid (M = false) := hide (by rw [HM.out]; simp [hk])
    clear HM
    try clear hd
    try clear hb
    try clear ha
    try clear hv
    try clear hk4
    try clear hk3
    go_wp2_with (first
      | (go_at_call_of 23 (Value.string nm)
         refine (HN.out _).mono ?_
         rintro e w1 ⟨rfl, hb1⟩
         have B1 := (Blk.new w 53 #[.int .i64 k, .string nm, .int .i64 v, .string d, .int .i64 a, .int .i64 b]).below hb1 (by simp)
         have hbe := (alloc_b w (.cells #[.int .i64 k, .string nm, .int .i64 v, .string d, .int .i64 a, .int .i64 b] 53)).trans (hb1.mono (by simp))
         have p0 := (B1.cell 0).trans (show (#[Value.int .i64 k, .string nm, .int .i64 v, .string d, .int .i64 a, .int .i64 b] : Array Value)[0]? = some (.int .i64 k) from rfl)
         have p1 := (B1.cell 1).trans (show (#[Value.int .i64 k, .string nm, .int .i64 v, .string d, .int .i64 a, .int .i64 b] : Array Value)[1]? = some (.string nm) from rfl)
         have p2 := (B1.cell 2).trans (show (#[Value.int .i64 k, .string nm, .int .i64 v, .string d, .int .i64 a, .int .i64 b] : Array Value)[2]? = some (.int .i64 v) from rfl)
         have p3 := (B1.cell 3).trans (show (#[Value.int .i64 k, .string nm, .int .i64 v, .string d, .int .i64 a, .int .i64 b] : Array Value)[3]? = some (.string d) from rfl)
         have p4 := (B1.cell 4).trans (show (#[Value.int .i64 k, .string nm, .int .i64 v, .string d, .int .i64 a, .int .i64 b] : Array Value)[4]? = some (.int .i64 a) from rfl)
         have p5 := (B1.cell 5).trans (show (#[Value.int .i64 k, .string nm, .int .i64 v, .string d, .int .i64 a, .int .i64 b] : Array Value)[5]? = some (.int .i64 b) from rfl))
      | (go_at_call_of 23 (Value.string d)
         clear p0 p1 p2 p3 p4 p5
         refine (HD.out _).mono ?_
         rintro e w2 ⟨rfl, hb2⟩
         have B2 := B1.below hb2 B1.lt
         have hbe := hbe.trans (hb2.mono hbe.size)
         have p0 := (B2.cell 0).trans (show (#[Value.int .i64 k, .string nm, .int .i64 v, .string d, .int .i64 a, .int .i64 b] : Array Value)[0]? = some (.int .i64 k) from rfl)
         have p1 := (B2.cell 1).trans (show (#[Value.int .i64 k, .string nm, .int .i64 v, .string d, .int .i64 a, .int .i64 b] : Array Value)[1]? = some (.string nm) from rfl)
         have p2 := (B2.cell 2).trans (show (#[Value.int .i64 k, .string nm, .int .i64 v, .string d, .int .i64 a, .int .i64 b] : Array Value)[2]? = some (.int .i64 v) from rfl)
         have p3 := (B2.cell 3).trans (show (#[Value.int .i64 k, .string nm, .int .i64 v, .string d, .int .i64 a, .int .i64 b] : Array Value)[3]? = some (.string d) from rfl)
         have p4 := (B2.cell 4).trans (show (#[Value.int .i64 k, .string nm, .int .i64 v, .string d, .int .i64 a, .int .i64 b] : Array Value)[4]? = some (.int .i64 a) from rfl)
         have p5 := (B2.cell 5).trans (show (#[Value.int .i64 k, .string nm, .int .i64 v, .string d, .int .i64 a, .int .i64 b] : Array Value)[5]? = some (.int .i64 b) from rfl))
      | (go_at_call 34
         refine (HV.out _).mono ?_
         rintro e w3 ⟨rfl, rfl⟩))
    go_ret
    exact ⟨by rw [E.out]; rfl, alloc_b _ _⟩
  · by_cases hk2 : 4 < k
    · have hk : ¬ (1 ≤ k ∧ k ≤ 4) := by omega
      have E : Hid (M = false) := hide (by rw [HM.out]; simp [hk])
      clear HM
      try clear hd
      try clear hb
      try clear ha
      try clear hv
      try clear hk4
      try clear hk3
      go_wp2_with (first
        | (go_at_call_of 23 (Value.string nm)
           refine (HN.out _).mono ?_
           rintro e w1 ⟨rfl, hb1⟩
           have B1 := (Blk.new w 53 #[.int .i64 k, .string nm, .int .i64 v, .string d, .int .i64 a, .int .i64 b]).below hb1 (by simp)
           have hbe := (alloc_b w (.cells #[.int .i64 k, .string nm, .int .i64 v, .string d, .int .i64 a, .int .i64 b] 53)).trans (hb1.mono (by simp))
           have p0 := (B1.cell 0).trans (show (#[Value.int .i64 k, .string nm, .int .i64 v, .string d, .int .i64 a, .int .i64 b] : Array Value)[0]? = some (.int .i64 k) from rfl)
           have p1 := (B1.cell 1).trans (show (#[Value.int .i64 k, .string nm, .int .i64 v, .string d, .int .i64 a, .int .i64 b] : Array Value)[1]? = some (.string nm) from rfl)
           have p2 := (B1.cell 2).trans (show (#[Value.int .i64 k, .string nm, .int .i64 v, .string d, .int .i64 a, .int .i64 b] : Array Value)[2]? = some (.int .i64 v) from rfl)
           have p3 := (B1.cell 3).trans (show (#[Value.int .i64 k, .string nm, .int .i64 v, .string d, .int .i64 a, .int .i64 b] : Array Value)[3]? = some (.string d) from rfl)
           have p4 := (B1.cell 4).trans (show (#[Value.int .i64 k, .string nm, .int .i64 v, .string d, .int .i64 a, .int .i64 b] : Array Value)[4]? = some (.int .i64 a) from rfl)
           have p5 := (B1.cell 5).trans (show (#[Value.int .i64 k, .string nm, .int .i64 v, .string d, .int .i64 a, .int .i64 b] : Array Value)[5]? = some (.int .i64 b) from rfl))
        | (go_at_call_of 23 (Value.string d)
           clear p0 p1 p2 p3 p4 p5
           refine (HD.out _).mono ?_
           rintro e w2 ⟨rfl, hb2⟩
           have B2 := B1.below hb2 B1.lt
           have hbe := hbe.trans (hb2.mono hbe.size)
           have p0 := (B2.cell 0).trans (show (#[Value.int .i64 k, .string nm, .int .i64 v, .string d, .int .i64 a, .int .i64 b] : Array Value)[0]? = some (.int .i64 k) from rfl)
           have p1 := (B2.cell 1).trans (show (#[Value.int .i64 k, .string nm, .int .i64 v, .string d, .int .i64 a, .int .i64 b] : Array Value)[1]? = some (.string nm) from rfl)
           have p2 := (B2.cell 2).trans (show (#[Value.int .i64 k, .string nm, .int .i64 v, .string d, .int .i64 a, .int .i64 b] : Array Value)[2]? = some (.int .i64 v) from rfl)
           have p3 := (B2.cell 3).trans (show (#[Value.int .i64 k, .string nm, .int .i64 v, .string d, .int .i64 a, .int .i64 b] : Array Value)[3]? = some (.string d) from rfl)
           have p4 := (B2.cell 4).trans (show (#[Value.int .i64 k, .string nm, .int .i64 v, .string d, .int .i64 a, .int .i64 b] : Array Value)[4]? = some (.int .i64 a) from rfl)
           have p5 := (B2.cell 5).trans (show (#[Value.int .i64 k, .string nm, .int .i64 v, .string d, .int .i64 a, .int .i64 b] : Array Value)[5]? = some (.int .i64 b) from rfl))
        | (go_at_call 34
           refine (HV.out _).mono ?_
           rintro e w3 ⟨rfl, rfl⟩))
      go_ret
      exact ⟨by rw [E.out]; rfl, alloc_b _ _⟩
    · have hk : 1 ≤ k ∧ k ≤ 4 := by omega
      cases y
      · have E : Hid (M = false) := hide (by rw [HM.out]; simp)
        clear HM
        try clear hd
        try clear hb
        try clear ha
        try clear hv
        try clear hk4
        try clear hk3
        go_wp2_with (first
          | (go_at_call_of 23 (Value.string nm)
             refine (HN.out _).mono ?_
             rintro e w1 ⟨rfl, hb1⟩
             have B1 := (Blk.new w 53 #[.int .i64 k, .string nm, .int .i64 v, .string d, .int .i64 a, .int .i64 b]).below hb1 (by simp)
             have hbe := (alloc_b w (.cells #[.int .i64 k, .string nm, .int .i64 v, .string d, .int .i64 a, .int .i64 b] 53)).trans (hb1.mono (by simp))
             have p0 := (B1.cell 0).trans (show (#[Value.int .i64 k, .string nm, .int .i64 v, .string d, .int .i64 a, .int .i64 b] : Array Value)[0]? = some (.int .i64 k) from rfl)
             have p1 := (B1.cell 1).trans (show (#[Value.int .i64 k, .string nm, .int .i64 v, .string d, .int .i64 a, .int .i64 b] : Array Value)[1]? = some (.string nm) from rfl)
             have p2 := (B1.cell 2).trans (show (#[Value.int .i64 k, .string nm, .int .i64 v, .string d, .int .i64 a, .int .i64 b] : Array Value)[2]? = some (.int .i64 v) from rfl)
             have p3 := (B1.cell 3).trans (show (#[Value.int .i64 k, .string nm, .int .i64 v, .string d, .int .i64 a, .int .i64 b] : Array Value)[3]? = some (.string d) from rfl)
             have p4 := (B1.cell 4).trans (show (#[Value.int .i64 k, .string nm, .int .i64 v, .string d, .int .i64 a, .int .i64 b] : Array Value)[4]? = some (.int .i64 a) from rfl)
             have p5 := (B1.cell 5).trans (show (#[Value.int .i64 k, .string nm, .int .i64 v, .string d, .int .i64 a, .int .i64 b] : Array Value)[5]? = some (.int .i64 b) from rfl))
          | (go_at_call_of 23 (Value.string d)
             clear p0 p1 p2 p3 p4 p5
             refine (HD.out _).mono ?_
             rintro e w2 ⟨rfl, hb2⟩
             have B2 := B1.below hb2 B1.lt
             have hbe := hbe.trans (hb2.mono hbe.size)
             have p0 := (B2.cell 0).trans (show (#[Value.int .i64 k, .string nm, .int .i64 v, .string d, .int .i64 a, .int .i64 b] : Array Value)[0]? = some (.int .i64 k) from rfl)
             have p1 := (B2.cell 1).trans (show (#[Value.int .i64 k, .string nm, .int .i64 v, .string d, .int .i64 a, .int .i64 b] : Array Value)[1]? = some (.string nm) from rfl)
             have p2 := (B2.cell 2).trans (show (#[Value.int .i64 k, .string nm, .int .i64 v, .string d, .int .i64 a, .int .i64 b] : Array Value)[2]? = some (.int .i64 v) from rfl)
             have p3 := (B2.cell 3).trans (show (#[Value.int .i64 k, .string nm, .int .i64 v, .string d, .int .i64 a, .int .i64 b] : Array Value)[3]? = some (.string d) from rfl)
             have p4 := (B2.cell 4).trans (show (#[Value.int .i64 k, .string nm, .int .i64 v, .string d, .int .i64 a, .int .i64 b] : Array Value)[4]? = some (.int .i64 a) from rfl)
             have p5 := (B2.cell 5).trans (show (#[Value.int .i64 k, .string nm, .int .i64 v, .string d, .int .i64 a, .int .i64 b] : Array Value)[5]? = some (.int .i64 b) from rfl))
          | (go_at_call 34
             refine (HV.out _).mono ?_
             rintro e w3 ⟨rfl, rfl⟩))
        go_ret
        exact ⟨by rw [E.out]; rfl, hbe⟩
      · by_cases hk3 : k = 3
        · have hk31 : (k == 3) = true := beq_iff_eq.2 hk3
          have hk32 : (k != 3) = false := by rw [bne, hk31]; rfl
          cases z
          · have E : Hid (M = false) := hide (by rw [HM.out]; simp [hk3])
            clear HM
            try clear hd
            try clear hb
            try clear ha
            try clear hv
            try clear hk4
            try clear hk3
            go_wp2_with (first
              | (go_at_call_of 23 (Value.string nm)
                 refine (HN.out _).mono ?_
                 rintro e w1 ⟨rfl, hb1⟩
                 have B1 := (Blk.new w 53 #[.int .i64 k, .string nm, .int .i64 v, .string d, .int .i64 a, .int .i64 b]).below hb1 (by simp)
                 have hbe := (alloc_b w (.cells #[.int .i64 k, .string nm, .int .i64 v, .string d, .int .i64 a, .int .i64 b] 53)).trans (hb1.mono (by simp))
                 have p0 := (B1.cell 0).trans (show (#[Value.int .i64 k, .string nm, .int .i64 v, .string d, .int .i64 a, .int .i64 b] : Array Value)[0]? = some (.int .i64 k) from rfl)
                 have p1 := (B1.cell 1).trans (show (#[Value.int .i64 k, .string nm, .int .i64 v, .string d, .int .i64 a, .int .i64 b] : Array Value)[1]? = some (.string nm) from rfl)
                 have p2 := (B1.cell 2).trans (show (#[Value.int .i64 k, .string nm, .int .i64 v, .string d, .int .i64 a, .int .i64 b] : Array Value)[2]? = some (.int .i64 v) from rfl)
                 have p3 := (B1.cell 3).trans (show (#[Value.int .i64 k, .string nm, .int .i64 v, .string d, .int .i64 a, .int .i64 b] : Array Value)[3]? = some (.string d) from rfl)
                 have p4 := (B1.cell 4).trans (show (#[Value.int .i64 k, .string nm, .int .i64 v, .string d, .int .i64 a, .int .i64 b] : Array Value)[4]? = some (.int .i64 a) from rfl)
                 have p5 := (B1.cell 5).trans (show (#[Value.int .i64 k, .string nm, .int .i64 v, .string d, .int .i64 a, .int .i64 b] : Array Value)[5]? = some (.int .i64 b) from rfl))
              | (go_at_call_of 23 (Value.string d)
                 clear p0 p1 p2 p3 p4 p5
                 refine (HD.out _).mono ?_
                 rintro e w2 ⟨rfl, hb2⟩
                 have B2 := B1.below hb2 B1.lt
                 have hbe := hbe.trans (hb2.mono hbe.size)
                 have p0 := (B2.cell 0).trans (show (#[Value.int .i64 k, .string nm, .int .i64 v, .string d, .int .i64 a, .int .i64 b] : Array Value)[0]? = some (.int .i64 k) from rfl)
                 have p1 := (B2.cell 1).trans (show (#[Value.int .i64 k, .string nm, .int .i64 v, .string d, .int .i64 a, .int .i64 b] : Array Value)[1]? = some (.string nm) from rfl)
                 have p2 := (B2.cell 2).trans (show (#[Value.int .i64 k, .string nm, .int .i64 v, .string d, .int .i64 a, .int .i64 b] : Array Value)[2]? = some (.int .i64 v) from rfl)
                 have p3 := (B2.cell 3).trans (show (#[Value.int .i64 k, .string nm, .int .i64 v, .string d, .int .i64 a, .int .i64 b] : Array Value)[3]? = some (.string d) from rfl)
                 have p4 := (B2.cell 4).trans (show (#[Value.int .i64 k, .string nm, .int .i64 v, .string d, .int .i64 a, .int .i64 b] : Array Value)[4]? = some (.int .i64 a) from rfl)
                 have p5 := (B2.cell 5).trans (show (#[Value.int .i64 k, .string nm, .int .i64 v, .string d, .int .i64 a, .int .i64 b] : Array Value)[5]? = some (.int .i64 b) from rfl))
              | (go_at_call 34
                 refine (HV.out _).mono ?_
                 rintro e w3 ⟨rfl, rfl⟩))
            go_ret
            exact ⟨by rw [E.out]; rfl, hbe⟩
          · cases u
            · have E : Hid (M = false) := hide (by rw [HM.out]; simp [hk3])
              clear HM
              try clear hd
              try clear hb
              try clear ha
              try clear hv
              try clear hk4
              try clear hk3
              go_wp2_with (first
                | (go_at_call_of 23 (Value.string nm)
                   refine (HN.out _).mono ?_
                   rintro e w1 ⟨rfl, hb1⟩
                   have B1 := (Blk.new w 53 #[.int .i64 k, .string nm, .int .i64 v, .string d, .int .i64 a, .int .i64 b]).below hb1 (by simp)
                   have hbe := (alloc_b w (.cells #[.int .i64 k, .string nm, .int .i64 v, .string d, .int .i64 a, .int .i64 b] 53)).trans (hb1.mono (by simp))
                   have p0 := (B1.cell 0).trans (show (#[Value.int .i64 k, .string nm, .int .i64 v, .string d, .int .i64 a, .int .i64 b] : Array Value)[0]? = some (.int .i64 k) from rfl)
                   have p1 := (B1.cell 1).trans (show (#[Value.int .i64 k, .string nm, .int .i64 v, .string d, .int .i64 a, .int .i64 b] : Array Value)[1]? = some (.string nm) from rfl)
                   have p2 := (B1.cell 2).trans (show (#[Value.int .i64 k, .string nm, .int .i64 v, .string d, .int .i64 a, .int .i64 b] : Array Value)[2]? = some (.int .i64 v) from rfl)
                   have p3 := (B1.cell 3).trans (show (#[Value.int .i64 k, .string nm, .int .i64 v, .string d, .int .i64 a, .int .i64 b] : Array Value)[3]? = some (.string d) from rfl)
                   have p4 := (B1.cell 4).trans (show (#[Value.int .i64 k, .string nm, .int .i64 v, .string d, .int .i64 a, .int .i64 b] : Array Value)[4]? = some (.int .i64 a) from rfl)
                   have p5 := (B1.cell 5).trans (show (#[Value.int .i64 k, .string nm, .int .i64 v, .string d, .int .i64 a, .int .i64 b] : Array Value)[5]? = some (.int .i64 b) from rfl))
                | (go_at_call_of 23 (Value.string d)
                   clear p0 p1 p2 p3 p4 p5
                   refine (HD.out _).mono ?_
                   rintro e w2 ⟨rfl, hb2⟩
                   have B2 := B1.below hb2 B1.lt
                   have hbe := hbe.trans (hb2.mono hbe.size)
                   have p0 := (B2.cell 0).trans (show (#[Value.int .i64 k, .string nm, .int .i64 v, .string d, .int .i64 a, .int .i64 b] : Array Value)[0]? = some (.int .i64 k) from rfl)
                   have p1 := (B2.cell 1).trans (show (#[Value.int .i64 k, .string nm, .int .i64 v, .string d, .int .i64 a, .int .i64 b] : Array Value)[1]? = some (.string nm) from rfl)
                   have p2 := (B2.cell 2).trans (show (#[Value.int .i64 k, .string nm, .int .i64 v, .string d, .int .i64 a, .int .i64 b] : Array Value)[2]? = some (.int .i64 v) from rfl)
                   have p3 := (B2.cell 3).trans (show (#[Value.int .i64 k, .string nm, .int .i64 v, .string d, .int .i64 a, .int .i64 b] : Array Value)[3]? = some (.string d) from rfl)
                   have p4 := (B2.cell 4).trans (show (#[Value.int .i64 k, .string nm, .int .i64 v, .string d, .int .i64 a, .int .i64 b] : Array Value)[4]? = some (.int .i64 a) from rfl)
                   have p5 := (B2.cell 5).trans (show (#[Value.int .i64 k, .string nm, .int .i64 v, .string d, .int .i64 a, .int .i64 b] : Array Value)[5]? = some (.int .i64 b) from rfl))
                | (go_at_call 34
                   refine (HV.out _).mono ?_
                   rintro e w3 ⟨rfl, rfl⟩))
              go_ret
              exact ⟨by rw [E.out]; rfl, hbe⟩
            · have hk4 : ¬ k = 4 := by omega
              have hk41 : (k == 4) = false := beq_eq_false_iff_ne.2 hk4
              by_cases ha : a = 0
              · have ha1 : (a == 0) = true := beq_iff_eq.2 ha
                have ha2 : (a != 0) = false := by rw [bne, ha1]; rfl
                by_cases hb : b = 0
                · have hb1 : (b == 0) = true := beq_iff_eq.2 hb
                  have hb2 : (b != 0) = false := by rw [bne, hb1]; rfl
                  have E : Hid (M = true) := hide (by rw [HM.out]; simp [hk, hk3, hk4, ha, hb])
                  clear HM
                  try clear hd
                  try clear hb
                  try clear ha
                  try clear hv
                  try clear hk4
                  try clear hk3
                  go_wp2_with (first
                    | (go_at_call_of 23 (Value.string nm)
                       refine (HN.out _).mono ?_
                       rintro e w1 ⟨rfl, hb1⟩
                       have B1 := (Blk.new w 53 #[.int .i64 k, .string nm, .int .i64 v, .string d, .int .i64 a, .int .i64 b]).below hb1 (by simp)
                       have hbe := (alloc_b w (.cells #[.int .i64 k, .string nm, .int .i64 v, .string d, .int .i64 a, .int .i64 b] 53)).trans (hb1.mono (by simp))
                       have p0 := (B1.cell 0).trans (show (#[Value.int .i64 k, .string nm, .int .i64 v, .string d, .int .i64 a, .int .i64 b] : Array Value)[0]? = some (.int .i64 k) from rfl)
                       have p1 := (B1.cell 1).trans (show (#[Value.int .i64 k, .string nm, .int .i64 v, .string d, .int .i64 a, .int .i64 b] : Array Value)[1]? = some (.string nm) from rfl)
                       have p2 := (B1.cell 2).trans (show (#[Value.int .i64 k, .string nm, .int .i64 v, .string d, .int .i64 a, .int .i64 b] : Array Value)[2]? = some (.int .i64 v) from rfl)
                       have p3 := (B1.cell 3).trans (show (#[Value.int .i64 k, .string nm, .int .i64 v, .string d, .int .i64 a, .int .i64 b] : Array Value)[3]? = some (.string d) from rfl)
                       have p4 := (B1.cell 4).trans (show (#[Value.int .i64 k, .string nm, .int .i64 v, .string d, .int .i64 a, .int .i64 b] : Array Value)[4]? = some (.int .i64 a) from rfl)
                       have p5 := (B1.cell 5).trans (show (#[Value.int .i64 k, .string nm, .int .i64 v, .string d, .int .i64 a, .int .i64 b] : Array Value)[5]? = some (.int .i64 b) from rfl))
                    | (go_at_call_of 23 (Value.string d)
                       clear p0 p1 p2 p3 p4 p5
                       refine (HD.out _).mono ?_
                       rintro e w2 ⟨rfl, hb2⟩
                       have B2 := B1.below hb2 B1.lt
                       have hbe := hbe.trans (hb2.mono hbe.size)
                       have p0 := (B2.cell 0).trans (show (#[Value.int .i64 k, .string nm, .int .i64 v, .string d, .int .i64 a, .int .i64 b] : Array Value)[0]? = some (.int .i64 k) from rfl)
                       have p1 := (B2.cell 1).trans (show (#[Value.int .i64 k, .string nm, .int .i64 v, .string d, .int .i64 a, .int .i64 b] : Array Value)[1]? = some (.string nm) from rfl)
                       have p2 := (B2.cell 2).trans (show (#[Value.int .i64 k, .string nm, .int .i64 v, .string d, .int .i64 a, .int .i64 b] : Array Value)[2]? = some (.int .i64 v) from rfl)
                       have p3 := (B2.cell 3).trans (show (#[Value.int .i64 k, .string nm, .int .i64 v, .string d, .int .i64 a, .int .i64 b] : Array Value)[3]? = some (.string d) from rfl)
                       have p4 := (B2.cell 4).trans (show (#[Value.int .i64 k, .string nm, .int .i64 v, .string d, .int .i64 a, .int .i64 b] : Array Value)[4]? = some (.int .i64 a) from rfl)
                       have p5 := (B2.cell 5).trans (show (#[Value.int .i64 k, .string nm, .int .i64 v, .string d, .int .i64 a, .int .i64 b] : Array Value)[5]? = some (.int .i64 b) from rfl))
                    | (go_at_call 34
                       refine (HV.out _).mono ?_
                       rintro e w3 ⟨rfl, rfl⟩))
                  go_ret
                  exact ⟨by rw [E.out]; rfl, hbe⟩
                · have hb1 : (b == 0) = false := beq_eq_false_iff_ne.2 hb
                  have hb2 : (b != 0) = true := bne_iff_ne.2 hb
                  have E : Hid (M = false) := hide (by rw [HM.out]; simp [hk, hk3, hk4, ha, hb])
                  clear HM
                  try clear hd
                  try clear hb
                  try clear ha
                  try clear hv
                  try clear hk4
                  try clear hk3
                  go_wp2_with (first
                    | (go_at_call_of 23 (Value.string nm)
                       refine (HN.out _).mono ?_
                       rintro e w1 ⟨rfl, hb1⟩
                       have B1 := (Blk.new w 53 #[.int .i64 k, .string nm, .int .i64 v, .string d, .int .i64 a, .int .i64 b]).below hb1 (by simp)
                       have hbe := (alloc_b w (.cells #[.int .i64 k, .string nm, .int .i64 v, .string d, .int .i64 a, .int .i64 b] 53)).trans (hb1.mono (by simp))
                       have p0 := (B1.cell 0).trans (show (#[Value.int .i64 k, .string nm, .int .i64 v, .string d, .int .i64 a, .int .i64 b] : Array Value)[0]? = some (.int .i64 k) from rfl)
                       have p1 := (B1.cell 1).trans (show (#[Value.int .i64 k, .string nm, .int .i64 v, .string d, .int .i64 a, .int .i64 b] : Array Value)[1]? = some (.string nm) from rfl)
                       have p2 := (B1.cell 2).trans (show (#[Value.int .i64 k, .string nm, .int .i64 v, .string d, .int .i64 a, .int .i64 b] : Array Value)[2]? = some (.int .i64 v) from rfl)
                       have p3 := (B1.cell 3).trans (show (#[Value.int .i64 k, .string nm, .int .i64 v, .string d, .int .i64 a, .int .i64 b] : Array Value)[3]? = some (.string d) from rfl)
                       have p4 := (B1.cell 4).trans (show (#[Value.int .i64 k, .string nm, .int .i64 v, .string d, .int .i64 a, .int .i64 b] : Array Value)[4]? = some (.int .i64 a) from rfl)
                       have p5 := (B1.cell 5).trans (show (#[Value.int .i64 k, .string nm, .int .i64 v, .string d, .int .i64 a, .int .i64 b] : Array Value)[5]? = some (.int .i64 b) from rfl))
                    | (go_at_call_of 23 (Value.string d)
                       clear p0 p1 p2 p3 p4 p5
                       refine (HD.out _).mono ?_
                       rintro e w2 ⟨rfl, hb2⟩
                       have B2 := B1.below hb2 B1.lt
                       have hbe := hbe.trans (hb2.mono hbe.size)
                       have p0 := (B2.cell 0).trans (show (#[Value.int .i64 k, .string nm, .int .i64 v, .string d, .int .i64 a, .int .i64 b] : Array Value)[0]? = some (.int .i64 k) from rfl)
                       have p1 := (B2.cell 1).trans (show (#[Value.int .i64 k, .string nm, .int .i64 v, .string d, .int .i64 a, .int .i64 b] : Array Value)[1]? = some (.string nm) from rfl)
                       have p2 := (B2.cell 2).trans (show (#[Value.int .i64 k, .string nm, .int .i64 v, .string d, .int .i64 a, .int .i64 b] : Array Value)[2]? = some (.int .i64 v) from rfl)
                       have p3 := (B2.cell 3).trans (show (#[Value.int .i64 k, .string nm, .int .i64 v, .string d, .int .i64 a, .int .i64 b] : Array Value)[3]? = some (.string d) from rfl)
                       have p4 := (B2.cell 4).trans (show (#[Value.int .i64 k, .string nm, .int .i64 v, .string d, .int .i64 a, .int .i64 b] : Array Value)[4]? = some (.int .i64 a) from rfl)
                       have p5 := (B2.cell 5).trans (show (#[Value.int .i64 k, .string nm, .int .i64 v, .string d, .int .i64 a, .int .i64 b] : Array Value)[5]? = some (.int .i64 b) from rfl))
                    | (go_at_call 34
                       refine (HV.out _).mono ?_
                       rintro e w3 ⟨rfl, rfl⟩))
                  go_ret
                  exact ⟨by rw [E.out]; rfl, hbe⟩
              · have ha1 : (a == 0) = false := beq_eq_false_iff_ne.2 ha
                have ha2 : (a != 0) = true := bne_iff_ne.2 ha
                have E : Hid (M = false) := hide (by rw [HM.out]; simp [hk, hk3, hk4, ha])
                clear HM
                try clear hd
                try clear hb
                try clear ha
                try clear hv
                try clear hk4
                try clear hk3
                go_wp2_with (first
                  | (go_at_call_of 23 (Value.string nm)
                     refine (HN.out _).mono ?_
                     rintro e w1 ⟨rfl, hb1⟩
                     have B1 := (Blk.new w 53 #[.int .i64 k, .string nm, .int .i64 v, .string d, .int .i64 a, .int .i64 b]).below hb1 (by simp)
                     have hbe := (alloc_b w (.cells #[.int .i64 k, .string nm, .int .i64 v, .string d, .int .i64 a, .int .i64 b] 53)).trans (hb1.mono (by simp))
                     have p0 := (B1.cell 0).trans (show (#[Value.int .i64 k, .string nm, .int .i64 v, .string d, .int .i64 a, .int .i64 b] : Array Value)[0]? = some (.int .i64 k) from rfl)
                     have p1 := (B1.cell 1).trans (show (#[Value.int .i64 k, .string nm, .int .i64 v, .string d, .int .i64 a, .int .i64 b] : Array Value)[1]? = some (.string nm) from rfl)
                     have p2 := (B1.cell 2).trans (show (#[Value.int .i64 k, .string nm, .int .i64 v, .string d, .int .i64 a, .int .i64 b] : Array Value)[2]? = some (.int .i64 v) from rfl)
                     have p3 := (B1.cell 3).trans (show (#[Value.int .i64 k, .string nm, .int .i64 v, .string d, .int .i64 a, .int .i64 b] : Array Value)[3]? = some (.string d) from rfl)
                     have p4 := (B1.cell 4).trans (show (#[Value.int .i64 k, .string nm, .int .i64 v, .string d, .int .i64 a, .int .i64 b] : Array Value)[4]? = some (.int .i64 a) from rfl)
                     have p5 := (B1.cell 5).trans (show (#[Value.int .i64 k, .string nm, .int .i64 v, .string d, .int .i64 a, .int .i64 b] : Array Value)[5]? = some (.int .i64 b) from rfl))
                  | (go_at_call_of 23 (Value.string d)
                     clear p0 p1 p2 p3 p4 p5
                     refine (HD.out _).mono ?_
                     rintro e w2 ⟨rfl, hb2⟩
                     have B2 := B1.below hb2 B1.lt
                     have hbe := hbe.trans (hb2.mono hbe.size)
                     have p0 := (B2.cell 0).trans (show (#[Value.int .i64 k, .string nm, .int .i64 v, .string d, .int .i64 a, .int .i64 b] : Array Value)[0]? = some (.int .i64 k) from rfl)
                     have p1 := (B2.cell 1).trans (show (#[Value.int .i64 k, .string nm, .int .i64 v, .string d, .int .i64 a, .int .i64 b] : Array Value)[1]? = some (.string nm) from rfl)
                     have p2 := (B2.cell 2).trans (show (#[Value.int .i64 k, .string nm, .int .i64 v, .string d, .int .i64 a, .int .i64 b] : Array Value)[2]? = some (.int .i64 v) from rfl)
                     have p3 := (B2.cell 3).trans (show (#[Value.int .i64 k, .string nm, .int .i64 v, .string d, .int .i64 a, .int .i64 b] : Array Value)[3]? = some (.string d) from rfl)
                     have p4 := (B2.cell 4).trans (show (#[Value.int .i64 k, .string nm, .int .i64 v, .string d, .int .i64 a, .int .i64 b] : Array Value)[4]? = some (.int .i64 a) from rfl)
                     have p5 := (B2.cell 5).trans (show (#[Value.int .i64 k, .string nm, .int .i64 v, .string d, .int .i64 a, .int .i64 b] : Array Value)[5]? = some (.int .i64 b) from rfl))
                  | (go_at_call 34
                     refine (HV.out _).mono ?_
                     rintro e w3 ⟨rfl, rfl⟩))
                go_ret
                exact ⟨by rw [E.out]; rfl, hbe⟩
        · have hk31 : (k == 3) = false := beq_eq_false_iff_ne.2 hk3
          have hk32 : (k != 3) = true := bne_iff_ne.2 hk3
          by_cases hd : d = ByteArray.empty
          · have hdd : d.toList = [] := by rw [hd]; exact empty_list
            by_cases hv : v = 0
            · have hv1 : (v == 0) = true := beq_iff_eq.2 hv
              have hv2 : (v != 0) = false := by rw [bne, hv1]; rfl
              by_cases hk4 : k = 4
              · have hk41 : (k == 4) = true := beq_iff_eq.2 hk4
                have hk42 : (k != 4) = false := by rw [bne, hk41]; rfl
                by_cases ia : 0 ≤ a
                · by_cases ia2 : a < (i : Int)
                  · by_cases ib : 0 ≤ b
                    · have E : Hid (M = decide (b < (i : Int))) := hide (by rw [HM.out]; simp [hk, hk3, hk4, hv, hd, ia, ia2, ib])
                      clear HM
                      try clear hd
                      try clear hb
                      try clear ha
                      try clear hv
                      try clear hk4
                      try clear hk3
                      go_wp2_with (first
                        | (go_at_call_of 23 (Value.string nm)
                           refine (HN.out _).mono ?_
                           rintro e w1 ⟨rfl, hb1⟩
                           have B1 := (Blk.new w 53 #[.int .i64 k, .string nm, .int .i64 v, .string d, .int .i64 a, .int .i64 b]).below hb1 (by simp)
                           have hbe := (alloc_b w (.cells #[.int .i64 k, .string nm, .int .i64 v, .string d, .int .i64 a, .int .i64 b] 53)).trans (hb1.mono (by simp))
                           have p0 := (B1.cell 0).trans (show (#[Value.int .i64 k, .string nm, .int .i64 v, .string d, .int .i64 a, .int .i64 b] : Array Value)[0]? = some (.int .i64 k) from rfl)
                           have p1 := (B1.cell 1).trans (show (#[Value.int .i64 k, .string nm, .int .i64 v, .string d, .int .i64 a, .int .i64 b] : Array Value)[1]? = some (.string nm) from rfl)
                           have p2 := (B1.cell 2).trans (show (#[Value.int .i64 k, .string nm, .int .i64 v, .string d, .int .i64 a, .int .i64 b] : Array Value)[2]? = some (.int .i64 v) from rfl)
                           have p3 := (B1.cell 3).trans (show (#[Value.int .i64 k, .string nm, .int .i64 v, .string d, .int .i64 a, .int .i64 b] : Array Value)[3]? = some (.string d) from rfl)
                           have p4 := (B1.cell 4).trans (show (#[Value.int .i64 k, .string nm, .int .i64 v, .string d, .int .i64 a, .int .i64 b] : Array Value)[4]? = some (.int .i64 a) from rfl)
                           have p5 := (B1.cell 5).trans (show (#[Value.int .i64 k, .string nm, .int .i64 v, .string d, .int .i64 a, .int .i64 b] : Array Value)[5]? = some (.int .i64 b) from rfl))
                        | (go_at_call_of 23 (Value.string d)
                           clear p0 p1 p2 p3 p4 p5
                           refine (HD.out _).mono ?_
                           rintro e w2 ⟨rfl, hb2⟩
                           have B2 := B1.below hb2 B1.lt
                           have hbe := hbe.trans (hb2.mono hbe.size)
                           have p0 := (B2.cell 0).trans (show (#[Value.int .i64 k, .string nm, .int .i64 v, .string d, .int .i64 a, .int .i64 b] : Array Value)[0]? = some (.int .i64 k) from rfl)
                           have p1 := (B2.cell 1).trans (show (#[Value.int .i64 k, .string nm, .int .i64 v, .string d, .int .i64 a, .int .i64 b] : Array Value)[1]? = some (.string nm) from rfl)
                           have p2 := (B2.cell 2).trans (show (#[Value.int .i64 k, .string nm, .int .i64 v, .string d, .int .i64 a, .int .i64 b] : Array Value)[2]? = some (.int .i64 v) from rfl)
                           have p3 := (B2.cell 3).trans (show (#[Value.int .i64 k, .string nm, .int .i64 v, .string d, .int .i64 a, .int .i64 b] : Array Value)[3]? = some (.string d) from rfl)
                           have p4 := (B2.cell 4).trans (show (#[Value.int .i64 k, .string nm, .int .i64 v, .string d, .int .i64 a, .int .i64 b] : Array Value)[4]? = some (.int .i64 a) from rfl)
                           have p5 := (B2.cell 5).trans (show (#[Value.int .i64 k, .string nm, .int .i64 v, .string d, .int .i64 a, .int .i64 b] : Array Value)[5]? = some (.int .i64 b) from rfl))
                        | (go_at_call 34
                           refine (HV.out _).mono ?_
                           rintro e w3 ⟨rfl, rfl⟩))
                      go_ret
                      exact ⟨by rw [E.out]; rfl, hbe⟩
                    · have hn : ¬ (0 ≤ a ∧ a < (i : Int) ∧ 0 ≤ b ∧ b < (i : Int)) := by omega
                      have E : Hid (M = false) := hide (by rw [HM.out]; simp [hk, hk3, hk4, hv, hd, hn])
                      clear HM
                      try clear hd
                      try clear hb
                      try clear ha
                      try clear hv
                      try clear hk4
                      try clear hk3
                      go_wp2_with (first
                        | (go_at_call_of 23 (Value.string nm)
                           refine (HN.out _).mono ?_
                           rintro e w1 ⟨rfl, hb1⟩
                           have B1 := (Blk.new w 53 #[.int .i64 k, .string nm, .int .i64 v, .string d, .int .i64 a, .int .i64 b]).below hb1 (by simp)
                           have hbe := (alloc_b w (.cells #[.int .i64 k, .string nm, .int .i64 v, .string d, .int .i64 a, .int .i64 b] 53)).trans (hb1.mono (by simp))
                           have p0 := (B1.cell 0).trans (show (#[Value.int .i64 k, .string nm, .int .i64 v, .string d, .int .i64 a, .int .i64 b] : Array Value)[0]? = some (.int .i64 k) from rfl)
                           have p1 := (B1.cell 1).trans (show (#[Value.int .i64 k, .string nm, .int .i64 v, .string d, .int .i64 a, .int .i64 b] : Array Value)[1]? = some (.string nm) from rfl)
                           have p2 := (B1.cell 2).trans (show (#[Value.int .i64 k, .string nm, .int .i64 v, .string d, .int .i64 a, .int .i64 b] : Array Value)[2]? = some (.int .i64 v) from rfl)
                           have p3 := (B1.cell 3).trans (show (#[Value.int .i64 k, .string nm, .int .i64 v, .string d, .int .i64 a, .int .i64 b] : Array Value)[3]? = some (.string d) from rfl)
                           have p4 := (B1.cell 4).trans (show (#[Value.int .i64 k, .string nm, .int .i64 v, .string d, .int .i64 a, .int .i64 b] : Array Value)[4]? = some (.int .i64 a) from rfl)
                           have p5 := (B1.cell 5).trans (show (#[Value.int .i64 k, .string nm, .int .i64 v, .string d, .int .i64 a, .int .i64 b] : Array Value)[5]? = some (.int .i64 b) from rfl))
                        | (go_at_call_of 23 (Value.string d)
                           clear p0 p1 p2 p3 p4 p5
                           refine (HD.out _).mono ?_
                           rintro e w2 ⟨rfl, hb2⟩
                           have B2 := B1.below hb2 B1.lt
                           have hbe := hbe.trans (hb2.mono hbe.size)
                           have p0 := (B2.cell 0).trans (show (#[Value.int .i64 k, .string nm, .int .i64 v, .string d, .int .i64 a, .int .i64 b] : Array Value)[0]? = some (.int .i64 k) from rfl)
                           have p1 := (B2.cell 1).trans (show (#[Value.int .i64 k, .string nm, .int .i64 v, .string d, .int .i64 a, .int .i64 b] : Array Value)[1]? = some (.string nm) from rfl)
                           have p2 := (B2.cell 2).trans (show (#[Value.int .i64 k, .string nm, .int .i64 v, .string d, .int .i64 a, .int .i64 b] : Array Value)[2]? = some (.int .i64 v) from rfl)
                           have p3 := (B2.cell 3).trans (show (#[Value.int .i64 k, .string nm, .int .i64 v, .string d, .int .i64 a, .int .i64 b] : Array Value)[3]? = some (.string d) from rfl)
                           have p4 := (B2.cell 4).trans (show (#[Value.int .i64 k, .string nm, .int .i64 v, .string d, .int .i64 a, .int .i64 b] : Array Value)[4]? = some (.int .i64 a) from rfl)
                           have p5 := (B2.cell 5).trans (show (#[Value.int .i64 k, .string nm, .int .i64 v, .string d, .int .i64 a, .int .i64 b] : Array Value)[5]? = some (.int .i64 b) from rfl))
                        | (go_at_call 34
                           refine (HV.out _).mono ?_
                           rintro e w3 ⟨rfl, rfl⟩))
                      go_ret
                      exact ⟨by rw [E.out]; rfl, hbe⟩
                  · have hn : ¬ (0 ≤ a ∧ a < (i : Int) ∧ 0 ≤ b ∧ b < (i : Int)) := by omega
                    have E : Hid (M = false) := hide (by rw [HM.out]; simp [hk, hk3, hk4, hv, hd, hn])
                    clear HM
                    try clear hd
                    try clear hb
                    try clear ha
                    try clear hv
                    try clear hk4
                    try clear hk3
                    go_wp2_with (first
                      | (go_at_call_of 23 (Value.string nm)
                         refine (HN.out _).mono ?_
                         rintro e w1 ⟨rfl, hb1⟩
                         have B1 := (Blk.new w 53 #[.int .i64 k, .string nm, .int .i64 v, .string d, .int .i64 a, .int .i64 b]).below hb1 (by simp)
                         have hbe := (alloc_b w (.cells #[.int .i64 k, .string nm, .int .i64 v, .string d, .int .i64 a, .int .i64 b] 53)).trans (hb1.mono (by simp))
                         have p0 := (B1.cell 0).trans (show (#[Value.int .i64 k, .string nm, .int .i64 v, .string d, .int .i64 a, .int .i64 b] : Array Value)[0]? = some (.int .i64 k) from rfl)
                         have p1 := (B1.cell 1).trans (show (#[Value.int .i64 k, .string nm, .int .i64 v, .string d, .int .i64 a, .int .i64 b] : Array Value)[1]? = some (.string nm) from rfl)
                         have p2 := (B1.cell 2).trans (show (#[Value.int .i64 k, .string nm, .int .i64 v, .string d, .int .i64 a, .int .i64 b] : Array Value)[2]? = some (.int .i64 v) from rfl)
                         have p3 := (B1.cell 3).trans (show (#[Value.int .i64 k, .string nm, .int .i64 v, .string d, .int .i64 a, .int .i64 b] : Array Value)[3]? = some (.string d) from rfl)
                         have p4 := (B1.cell 4).trans (show (#[Value.int .i64 k, .string nm, .int .i64 v, .string d, .int .i64 a, .int .i64 b] : Array Value)[4]? = some (.int .i64 a) from rfl)
                         have p5 := (B1.cell 5).trans (show (#[Value.int .i64 k, .string nm, .int .i64 v, .string d, .int .i64 a, .int .i64 b] : Array Value)[5]? = some (.int .i64 b) from rfl))
                      | (go_at_call_of 23 (Value.string d)
                         clear p0 p1 p2 p3 p4 p5
                         refine (HD.out _).mono ?_
                         rintro e w2 ⟨rfl, hb2⟩
                         have B2 := B1.below hb2 B1.lt
                         have hbe := hbe.trans (hb2.mono hbe.size)
                         have p0 := (B2.cell 0).trans (show (#[Value.int .i64 k, .string nm, .int .i64 v, .string d, .int .i64 a, .int .i64 b] : Array Value)[0]? = some (.int .i64 k) from rfl)
                         have p1 := (B2.cell 1).trans (show (#[Value.int .i64 k, .string nm, .int .i64 v, .string d, .int .i64 a, .int .i64 b] : Array Value)[1]? = some (.string nm) from rfl)
                         have p2 := (B2.cell 2).trans (show (#[Value.int .i64 k, .string nm, .int .i64 v, .string d, .int .i64 a, .int .i64 b] : Array Value)[2]? = some (.int .i64 v) from rfl)
                         have p3 := (B2.cell 3).trans (show (#[Value.int .i64 k, .string nm, .int .i64 v, .string d, .int .i64 a, .int .i64 b] : Array Value)[3]? = some (.string d) from rfl)
                         have p4 := (B2.cell 4).trans (show (#[Value.int .i64 k, .string nm, .int .i64 v, .string d, .int .i64 a, .int .i64 b] : Array Value)[4]? = some (.int .i64 a) from rfl)
                         have p5 := (B2.cell 5).trans (show (#[Value.int .i64 k, .string nm, .int .i64 v, .string d, .int .i64 a, .int .i64 b] : Array Value)[5]? = some (.int .i64 b) from rfl))
                      | (go_at_call 34
                         refine (HV.out _).mono ?_
                         rintro e w3 ⟨rfl, rfl⟩))
                    go_ret
                    exact ⟨by rw [E.out]; rfl, hbe⟩
                · have hn : ¬ (0 ≤ a ∧ a < (i : Int) ∧ 0 ≤ b ∧ b < (i : Int)) := by omega
                  have E : Hid (M = false) := hide (by rw [HM.out]; simp [hk, hk3, hk4, hv, hd, hn])
                  clear HM
                  try clear hd
                  try clear hb
                  try clear ha
                  try clear hv
                  try clear hk4
                  try clear hk3
                  go_wp2_with (first
                    | (go_at_call_of 23 (Value.string nm)
                       refine (HN.out _).mono ?_
                       rintro e w1 ⟨rfl, hb1⟩
                       have B1 := (Blk.new w 53 #[.int .i64 k, .string nm, .int .i64 v, .string d, .int .i64 a, .int .i64 b]).below hb1 (by simp)
                       have hbe := (alloc_b w (.cells #[.int .i64 k, .string nm, .int .i64 v, .string d, .int .i64 a, .int .i64 b] 53)).trans (hb1.mono (by simp))
                       have p0 := (B1.cell 0).trans (show (#[Value.int .i64 k, .string nm, .int .i64 v, .string d, .int .i64 a, .int .i64 b] : Array Value)[0]? = some (.int .i64 k) from rfl)
                       have p1 := (B1.cell 1).trans (show (#[Value.int .i64 k, .string nm, .int .i64 v, .string d, .int .i64 a, .int .i64 b] : Array Value)[1]? = some (.string nm) from rfl)
                       have p2 := (B1.cell 2).trans (show (#[Value.int .i64 k, .string nm, .int .i64 v, .string d, .int .i64 a, .int .i64 b] : Array Value)[2]? = some (.int .i64 v) from rfl)
                       have p3 := (B1.cell 3).trans (show (#[Value.int .i64 k, .string nm, .int .i64 v, .string d, .int .i64 a, .int .i64 b] : Array Value)[3]? = some (.string d) from rfl)
                       have p4 := (B1.cell 4).trans (show (#[Value.int .i64 k, .string nm, .int .i64 v, .string d, .int .i64 a, .int .i64 b] : Array Value)[4]? = some (.int .i64 a) from rfl)
                       have p5 := (B1.cell 5).trans (show (#[Value.int .i64 k, .string nm, .int .i64 v, .string d, .int .i64 a, .int .i64 b] : Array Value)[5]? = some (.int .i64 b) from rfl))
                    | (go_at_call_of 23 (Value.string d)
                       clear p0 p1 p2 p3 p4 p5
                       refine (HD.out _).mono ?_
                       rintro e w2 ⟨rfl, hb2⟩
                       have B2 := B1.below hb2 B1.lt
                       have hbe := hbe.trans (hb2.mono hbe.size)
                       have p0 := (B2.cell 0).trans (show (#[Value.int .i64 k, .string nm, .int .i64 v, .string d, .int .i64 a, .int .i64 b] : Array Value)[0]? = some (.int .i64 k) from rfl)
                       have p1 := (B2.cell 1).trans (show (#[Value.int .i64 k, .string nm, .int .i64 v, .string d, .int .i64 a, .int .i64 b] : Array Value)[1]? = some (.string nm) from rfl)
                       have p2 := (B2.cell 2).trans (show (#[Value.int .i64 k, .string nm, .int .i64 v, .string d, .int .i64 a, .int .i64 b] : Array Value)[2]? = some (.int .i64 v) from rfl)
                       have p3 := (B2.cell 3).trans (show (#[Value.int .i64 k, .string nm, .int .i64 v, .string d, .int .i64 a, .int .i64 b] : Array Value)[3]? = some (.string d) from rfl)
                       have p4 := (B2.cell 4).trans (show (#[Value.int .i64 k, .string nm, .int .i64 v, .string d, .int .i64 a, .int .i64 b] : Array Value)[4]? = some (.int .i64 a) from rfl)
                       have p5 := (B2.cell 5).trans (show (#[Value.int .i64 k, .string nm, .int .i64 v, .string d, .int .i64 a, .int .i64 b] : Array Value)[5]? = some (.int .i64 b) from rfl))
                    | (go_at_call 34
                       refine (HV.out _).mono ?_
                       rintro e w3 ⟨rfl, rfl⟩))
                  go_ret
                  exact ⟨by rw [E.out]; rfl, hbe⟩
              · have hk41 : (k == 4) = false := beq_eq_false_iff_ne.2 hk4
                have hk42 : (k != 4) = true := bne_iff_ne.2 hk4
                by_cases ha : a = 0
                · have ha1 : (a == 0) = true := beq_iff_eq.2 ha
                  have ha2 : (a != 0) = false := by rw [bne, ha1]; rfl
                  by_cases hb : b = 0
                  · have hb1 : (b == 0) = true := beq_iff_eq.2 hb
                    have hb2 : (b != 0) = false := by rw [bne, hb1]; rfl
                    have E : Hid (M = true) := hide (by rw [HM.out]; simp [hk, hk3, hk4, hv, hd, ha, hb])
                    clear HM
                    try clear hd
                    try clear hb
                    try clear ha
                    try clear hv
                    try clear hk4
                    try clear hk3
                    go_wp2_with (first
                      | (go_at_call_of 23 (Value.string nm)
                         refine (HN.out _).mono ?_
                         rintro e w1 ⟨rfl, hb1⟩
                         have B1 := (Blk.new w 53 #[.int .i64 k, .string nm, .int .i64 v, .string d, .int .i64 a, .int .i64 b]).below hb1 (by simp)
                         have hbe := (alloc_b w (.cells #[.int .i64 k, .string nm, .int .i64 v, .string d, .int .i64 a, .int .i64 b] 53)).trans (hb1.mono (by simp))
                         have p0 := (B1.cell 0).trans (show (#[Value.int .i64 k, .string nm, .int .i64 v, .string d, .int .i64 a, .int .i64 b] : Array Value)[0]? = some (.int .i64 k) from rfl)
                         have p1 := (B1.cell 1).trans (show (#[Value.int .i64 k, .string nm, .int .i64 v, .string d, .int .i64 a, .int .i64 b] : Array Value)[1]? = some (.string nm) from rfl)
                         have p2 := (B1.cell 2).trans (show (#[Value.int .i64 k, .string nm, .int .i64 v, .string d, .int .i64 a, .int .i64 b] : Array Value)[2]? = some (.int .i64 v) from rfl)
                         have p3 := (B1.cell 3).trans (show (#[Value.int .i64 k, .string nm, .int .i64 v, .string d, .int .i64 a, .int .i64 b] : Array Value)[3]? = some (.string d) from rfl)
                         have p4 := (B1.cell 4).trans (show (#[Value.int .i64 k, .string nm, .int .i64 v, .string d, .int .i64 a, .int .i64 b] : Array Value)[4]? = some (.int .i64 a) from rfl)
                         have p5 := (B1.cell 5).trans (show (#[Value.int .i64 k, .string nm, .int .i64 v, .string d, .int .i64 a, .int .i64 b] : Array Value)[5]? = some (.int .i64 b) from rfl))
                      | (go_at_call_of 23 (Value.string d)
                         clear p0 p1 p2 p3 p4 p5
                         refine (HD.out _).mono ?_
                         rintro e w2 ⟨rfl, hb2⟩
                         have B2 := B1.below hb2 B1.lt
                         have hbe := hbe.trans (hb2.mono hbe.size)
                         have p0 := (B2.cell 0).trans (show (#[Value.int .i64 k, .string nm, .int .i64 v, .string d, .int .i64 a, .int .i64 b] : Array Value)[0]? = some (.int .i64 k) from rfl)
                         have p1 := (B2.cell 1).trans (show (#[Value.int .i64 k, .string nm, .int .i64 v, .string d, .int .i64 a, .int .i64 b] : Array Value)[1]? = some (.string nm) from rfl)
                         have p2 := (B2.cell 2).trans (show (#[Value.int .i64 k, .string nm, .int .i64 v, .string d, .int .i64 a, .int .i64 b] : Array Value)[2]? = some (.int .i64 v) from rfl)
                         have p3 := (B2.cell 3).trans (show (#[Value.int .i64 k, .string nm, .int .i64 v, .string d, .int .i64 a, .int .i64 b] : Array Value)[3]? = some (.string d) from rfl)
                         have p4 := (B2.cell 4).trans (show (#[Value.int .i64 k, .string nm, .int .i64 v, .string d, .int .i64 a, .int .i64 b] : Array Value)[4]? = some (.int .i64 a) from rfl)
                         have p5 := (B2.cell 5).trans (show (#[Value.int .i64 k, .string nm, .int .i64 v, .string d, .int .i64 a, .int .i64 b] : Array Value)[5]? = some (.int .i64 b) from rfl))
                      | (go_at_call 34
                         refine (HV.out _).mono ?_
                         rintro e w3 ⟨rfl, rfl⟩))
                    go_ret
                    exact ⟨by rw [E.out]; rfl, hbe⟩
                  · have hb1 : (b == 0) = false := beq_eq_false_iff_ne.2 hb
                    have hb2 : (b != 0) = true := bne_iff_ne.2 hb
                    have E : Hid (M = false) := hide (by rw [HM.out]; simp [hk, hk3, hk4, hv, hd, ha, hb])
                    clear HM
                    try clear hd
                    try clear hb
                    try clear ha
                    try clear hv
                    try clear hk4
                    try clear hk3
                    go_wp2_with (first
                      | (go_at_call_of 23 (Value.string nm)
                         refine (HN.out _).mono ?_
                         rintro e w1 ⟨rfl, hb1⟩
                         have B1 := (Blk.new w 53 #[.int .i64 k, .string nm, .int .i64 v, .string d, .int .i64 a, .int .i64 b]).below hb1 (by simp)
                         have hbe := (alloc_b w (.cells #[.int .i64 k, .string nm, .int .i64 v, .string d, .int .i64 a, .int .i64 b] 53)).trans (hb1.mono (by simp))
                         have p0 := (B1.cell 0).trans (show (#[Value.int .i64 k, .string nm, .int .i64 v, .string d, .int .i64 a, .int .i64 b] : Array Value)[0]? = some (.int .i64 k) from rfl)
                         have p1 := (B1.cell 1).trans (show (#[Value.int .i64 k, .string nm, .int .i64 v, .string d, .int .i64 a, .int .i64 b] : Array Value)[1]? = some (.string nm) from rfl)
                         have p2 := (B1.cell 2).trans (show (#[Value.int .i64 k, .string nm, .int .i64 v, .string d, .int .i64 a, .int .i64 b] : Array Value)[2]? = some (.int .i64 v) from rfl)
                         have p3 := (B1.cell 3).trans (show (#[Value.int .i64 k, .string nm, .int .i64 v, .string d, .int .i64 a, .int .i64 b] : Array Value)[3]? = some (.string d) from rfl)
                         have p4 := (B1.cell 4).trans (show (#[Value.int .i64 k, .string nm, .int .i64 v, .string d, .int .i64 a, .int .i64 b] : Array Value)[4]? = some (.int .i64 a) from rfl)
                         have p5 := (B1.cell 5).trans (show (#[Value.int .i64 k, .string nm, .int .i64 v, .string d, .int .i64 a, .int .i64 b] : Array Value)[5]? = some (.int .i64 b) from rfl))
                      | (go_at_call_of 23 (Value.string d)
                         clear p0 p1 p2 p3 p4 p5
                         refine (HD.out _).mono ?_
                         rintro e w2 ⟨rfl, hb2⟩
                         have B2 := B1.below hb2 B1.lt
                         have hbe := hbe.trans (hb2.mono hbe.size)
                         have p0 := (B2.cell 0).trans (show (#[Value.int .i64 k, .string nm, .int .i64 v, .string d, .int .i64 a, .int .i64 b] : Array Value)[0]? = some (.int .i64 k) from rfl)
                         have p1 := (B2.cell 1).trans (show (#[Value.int .i64 k, .string nm, .int .i64 v, .string d, .int .i64 a, .int .i64 b] : Array Value)[1]? = some (.string nm) from rfl)
                         have p2 := (B2.cell 2).trans (show (#[Value.int .i64 k, .string nm, .int .i64 v, .string d, .int .i64 a, .int .i64 b] : Array Value)[2]? = some (.int .i64 v) from rfl)
                         have p3 := (B2.cell 3).trans (show (#[Value.int .i64 k, .string nm, .int .i64 v, .string d, .int .i64 a, .int .i64 b] : Array Value)[3]? = some (.string d) from rfl)
                         have p4 := (B2.cell 4).trans (show (#[Value.int .i64 k, .string nm, .int .i64 v, .string d, .int .i64 a, .int .i64 b] : Array Value)[4]? = some (.int .i64 a) from rfl)
                         have p5 := (B2.cell 5).trans (show (#[Value.int .i64 k, .string nm, .int .i64 v, .string d, .int .i64 a, .int .i64 b] : Array Value)[5]? = some (.int .i64 b) from rfl))
                      | (go_at_call 34
                         refine (HV.out _).mono ?_
                         rintro e w3 ⟨rfl, rfl⟩))
                    go_ret
                    exact ⟨by rw [E.out]; rfl, hbe⟩
                · have ha1 : (a == 0) = false := beq_eq_false_iff_ne.2 ha
                  have ha2 : (a != 0) = true := bne_iff_ne.2 ha
                  have E : Hid (M = false) := hide (by rw [HM.out]; simp [hk, hk3, hk4, hv, hd, ha])
                  clear HM
                  try clear hd
                  try clear hb
                  try clear ha
                  try clear hv
                  try clear hk4
                  try clear hk3
                  go_wp2_with (first
                    | (go_at_call_of 23 (Value.string nm)
                       refine (HN.out _).mono ?_
                       rintro e w1 ⟨rfl, hb1⟩
                       have B1 := (Blk.new w 53 #[.int .i64 k, .string nm, .int .i64 v, .string d, .int .i64 a, .int .i64 b]).below hb1 (by simp)
                       have hbe := (alloc_b w (.cells #[.int .i64 k, .string nm, .int .i64 v, .string d, .int .i64 a, .int .i64 b] 53)).trans (hb1.mono (by simp))
                       have p0 := (B1.cell 0).trans (show (#[Value.int .i64 k, .string nm, .int .i64 v, .string d, .int .i64 a, .int .i64 b] : Array Value)[0]? = some (.int .i64 k) from rfl)
                       have p1 := (B1.cell 1).trans (show (#[Value.int .i64 k, .string nm, .int .i64 v, .string d, .int .i64 a, .int .i64 b] : Array Value)[1]? = some (.string nm) from rfl)
                       have p2 := (B1.cell 2).trans (show (#[Value.int .i64 k, .string nm, .int .i64 v, .string d, .int .i64 a, .int .i64 b] : Array Value)[2]? = some (.int .i64 v) from rfl)
                       have p3 := (B1.cell 3).trans (show (#[Value.int .i64 k, .string nm, .int .i64 v, .string d, .int .i64 a, .int .i64 b] : Array Value)[3]? = some (.string d) from rfl)
                       have p4 := (B1.cell 4).trans (show (#[Value.int .i64 k, .string nm, .int .i64 v, .string d, .int .i64 a, .int .i64 b] : Array Value)[4]? = some (.int .i64 a) from rfl)
                       have p5 := (B1.cell 5).trans (show (#[Value.int .i64 k, .string nm, .int .i64 v, .string d, .int .i64 a, .int .i64 b] : Array Value)[5]? = some (.int .i64 b) from rfl))
                    | (go_at_call_of 23 (Value.string d)
                       clear p0 p1 p2 p3 p4 p5
                       refine (HD.out _).mono ?_
                       rintro e w2 ⟨rfl, hb2⟩
                       have B2 := B1.below hb2 B1.lt
                       have hbe := hbe.trans (hb2.mono hbe.size)
                       have p0 := (B2.cell 0).trans (show (#[Value.int .i64 k, .string nm, .int .i64 v, .string d, .int .i64 a, .int .i64 b] : Array Value)[0]? = some (.int .i64 k) from rfl)
                       have p1 := (B2.cell 1).trans (show (#[Value.int .i64 k, .string nm, .int .i64 v, .string d, .int .i64 a, .int .i64 b] : Array Value)[1]? = some (.string nm) from rfl)
                       have p2 := (B2.cell 2).trans (show (#[Value.int .i64 k, .string nm, .int .i64 v, .string d, .int .i64 a, .int .i64 b] : Array Value)[2]? = some (.int .i64 v) from rfl)
                       have p3 := (B2.cell 3).trans (show (#[Value.int .i64 k, .string nm, .int .i64 v, .string d, .int .i64 a, .int .i64 b] : Array Value)[3]? = some (.string d) from rfl)
                       have p4 := (B2.cell 4).trans (show (#[Value.int .i64 k, .string nm, .int .i64 v, .string d, .int .i64 a, .int .i64 b] : Array Value)[4]? = some (.int .i64 a) from rfl)
                       have p5 := (B2.cell 5).trans (show (#[Value.int .i64 k, .string nm, .int .i64 v, .string d, .int .i64 a, .int .i64 b] : Array Value)[5]? = some (.int .i64 b) from rfl))
                    | (go_at_call 34
                       refine (HV.out _).mono ?_
                       rintro e w3 ⟨rfl, rfl⟩))
                  go_ret
                  exact ⟨by rw [E.out]; rfl, hbe⟩
            · have hv1 : (v == 0) = false := beq_eq_false_iff_ne.2 hv
              have hv2 : (v != 0) = true := bne_iff_ne.2 hv
              have E : Hid (M = false) := hide (by rw [HM.out]; simp [hk3, hv])
              clear HM
              try clear hd
              try clear hb
              try clear ha
              try clear hv
              try clear hk4
              try clear hk3
              go_wp2_with (first
                | (go_at_call_of 23 (Value.string nm)
                   refine (HN.out _).mono ?_
                   rintro e w1 ⟨rfl, hb1⟩
                   have B1 := (Blk.new w 53 #[.int .i64 k, .string nm, .int .i64 v, .string d, .int .i64 a, .int .i64 b]).below hb1 (by simp)
                   have hbe := (alloc_b w (.cells #[.int .i64 k, .string nm, .int .i64 v, .string d, .int .i64 a, .int .i64 b] 53)).trans (hb1.mono (by simp))
                   have p0 := (B1.cell 0).trans (show (#[Value.int .i64 k, .string nm, .int .i64 v, .string d, .int .i64 a, .int .i64 b] : Array Value)[0]? = some (.int .i64 k) from rfl)
                   have p1 := (B1.cell 1).trans (show (#[Value.int .i64 k, .string nm, .int .i64 v, .string d, .int .i64 a, .int .i64 b] : Array Value)[1]? = some (.string nm) from rfl)
                   have p2 := (B1.cell 2).trans (show (#[Value.int .i64 k, .string nm, .int .i64 v, .string d, .int .i64 a, .int .i64 b] : Array Value)[2]? = some (.int .i64 v) from rfl)
                   have p3 := (B1.cell 3).trans (show (#[Value.int .i64 k, .string nm, .int .i64 v, .string d, .int .i64 a, .int .i64 b] : Array Value)[3]? = some (.string d) from rfl)
                   have p4 := (B1.cell 4).trans (show (#[Value.int .i64 k, .string nm, .int .i64 v, .string d, .int .i64 a, .int .i64 b] : Array Value)[4]? = some (.int .i64 a) from rfl)
                   have p5 := (B1.cell 5).trans (show (#[Value.int .i64 k, .string nm, .int .i64 v, .string d, .int .i64 a, .int .i64 b] : Array Value)[5]? = some (.int .i64 b) from rfl))
                | (go_at_call_of 23 (Value.string d)
                   clear p0 p1 p2 p3 p4 p5
                   refine (HD.out _).mono ?_
                   rintro e w2 ⟨rfl, hb2⟩
                   have B2 := B1.below hb2 B1.lt
                   have hbe := hbe.trans (hb2.mono hbe.size)
                   have p0 := (B2.cell 0).trans (show (#[Value.int .i64 k, .string nm, .int .i64 v, .string d, .int .i64 a, .int .i64 b] : Array Value)[0]? = some (.int .i64 k) from rfl)
                   have p1 := (B2.cell 1).trans (show (#[Value.int .i64 k, .string nm, .int .i64 v, .string d, .int .i64 a, .int .i64 b] : Array Value)[1]? = some (.string nm) from rfl)
                   have p2 := (B2.cell 2).trans (show (#[Value.int .i64 k, .string nm, .int .i64 v, .string d, .int .i64 a, .int .i64 b] : Array Value)[2]? = some (.int .i64 v) from rfl)
                   have p3 := (B2.cell 3).trans (show (#[Value.int .i64 k, .string nm, .int .i64 v, .string d, .int .i64 a, .int .i64 b] : Array Value)[3]? = some (.string d) from rfl)
                   have p4 := (B2.cell 4).trans (show (#[Value.int .i64 k, .string nm, .int .i64 v, .string d, .int .i64 a, .int .i64 b] : Array Value)[4]? = some (.int .i64 a) from rfl)
                   have p5 := (B2.cell 5).trans (show (#[Value.int .i64 k, .string nm, .int .i64 v, .string d, .int .i64 a, .int .i64 b] : Array Value)[5]? = some (.int .i64 b) from rfl))
                | (go_at_call 34
                   refine (HV.out _).mono ?_
                   rintro e w3 ⟨rfl, rfl⟩))
              go_ret
              exact ⟨by rw [E.out]; rfl, hbe⟩
          · have hdd : ¬ d.toList = [] := fun e => hd (eq_empty e)
            have E : Hid (M = false) := hide (by rw [HM.out]; simp [hk3, hd])
            clear HM
            try clear hd
            try clear hb
            try clear ha
            try clear hv
            try clear hk4
            try clear hk3
            go_wp2_with (first
              | (go_at_call_of 23 (Value.string nm)
                 refine (HN.out _).mono ?_
                 rintro e w1 ⟨rfl, hb1⟩
                 have B1 := (Blk.new w 53 #[.int .i64 k, .string nm, .int .i64 v, .string d, .int .i64 a, .int .i64 b]).below hb1 (by simp)
                 have hbe := (alloc_b w (.cells #[.int .i64 k, .string nm, .int .i64 v, .string d, .int .i64 a, .int .i64 b] 53)).trans (hb1.mono (by simp))
                 have p0 := (B1.cell 0).trans (show (#[Value.int .i64 k, .string nm, .int .i64 v, .string d, .int .i64 a, .int .i64 b] : Array Value)[0]? = some (.int .i64 k) from rfl)
                 have p1 := (B1.cell 1).trans (show (#[Value.int .i64 k, .string nm, .int .i64 v, .string d, .int .i64 a, .int .i64 b] : Array Value)[1]? = some (.string nm) from rfl)
                 have p2 := (B1.cell 2).trans (show (#[Value.int .i64 k, .string nm, .int .i64 v, .string d, .int .i64 a, .int .i64 b] : Array Value)[2]? = some (.int .i64 v) from rfl)
                 have p3 := (B1.cell 3).trans (show (#[Value.int .i64 k, .string nm, .int .i64 v, .string d, .int .i64 a, .int .i64 b] : Array Value)[3]? = some (.string d) from rfl)
                 have p4 := (B1.cell 4).trans (show (#[Value.int .i64 k, .string nm, .int .i64 v, .string d, .int .i64 a, .int .i64 b] : Array Value)[4]? = some (.int .i64 a) from rfl)
                 have p5 := (B1.cell 5).trans (show (#[Value.int .i64 k, .string nm, .int .i64 v, .string d, .int .i64 a, .int .i64 b] : Array Value)[5]? = some (.int .i64 b) from rfl))
              | (go_at_call_of 23 (Value.string d)
                 clear p0 p1 p2 p3 p4 p5
                 refine (HD.out _).mono ?_
                 rintro e w2 ⟨rfl, hb2⟩
                 have B2 := B1.below hb2 B1.lt
                 have hbe := hbe.trans (hb2.mono hbe.size)
                 have p0 := (B2.cell 0).trans (show (#[Value.int .i64 k, .string nm, .int .i64 v, .string d, .int .i64 a, .int .i64 b] : Array Value)[0]? = some (.int .i64 k) from rfl)
                 have p1 := (B2.cell 1).trans (show (#[Value.int .i64 k, .string nm, .int .i64 v, .string d, .int .i64 a, .int .i64 b] : Array Value)[1]? = some (.string nm) from rfl)
                 have p2 := (B2.cell 2).trans (show (#[Value.int .i64 k, .string nm, .int .i64 v, .string d, .int .i64 a, .int .i64 b] : Array Value)[2]? = some (.int .i64 v) from rfl)
                 have p3 := (B2.cell 3).trans (show (#[Value.int .i64 k, .string nm, .int .i64 v, .string d, .int .i64 a, .int .i64 b] : Array Value)[3]? = some (.string d) from rfl)
                 have p4 := (B2.cell 4).trans (show (#[Value.int .i64 k, .string nm, .int .i64 v, .string d, .int .i64 a, .int .i64 b] : Array Value)[4]? = some (.int .i64 a) from rfl)
                 have p5 := (B2.cell 5).trans (show (#[Value.int .i64 k, .string nm, .int .i64 v, .string d, .int .i64 a, .int .i64 b] : Array Value)[5]? = some (.int .i64 b) from rfl))
              | (go_at_call 34
                 refine (HV.out _).mono ?_
                 rintro e w3 ⟨rfl, rfl⟩))
            go_ret
            exact ⟨by rw [E.out]; rfl, hbe⟩
set_option maxHeartbeats 4000000 in
set_option maxRecDepth 100000 in
theorem refCheckPf_any (l : List Sp) (A : Option Addr) (n c : Nat) (w : World) (h : PfOn w A n l) (hl : ∀ q ∈ l, q.name.size ≤ 1000000000 ∧ q.dest.size ≤ 1000000000) (hn : n ≤ 140737488355328) :
    Calls Tryz.prog 14 #[.slice A n c] w fun e w' => e = .returned (.bool (okPf l)) ∧ Below w.heap.size w w' := by
  have hlen := h.len
  by_cases hlong : 1048576 < n
  · have E := hide (okPf_long (l := l) (by omega))
    generalize okPf l = F at *
    have hlong2 : (1048576 : Int) < (n : Int) := by omega
    clear hlen h hl
    go_enter Tryz.func14, Tryz.ntmps14
    go_wp2
    go_ret
    exact ⟨by rw [E.out]; rfl, Below.refl _ _⟩
  · have Hall := hide (fun (h2 : OkSteps l) => okPf_all (l := l) (by omega) h2)
    have Hnot := hide (fun (i : Nat) (s : Sp) (hs : l[i]? = some s) (hm : mayS s i = false) => okPf_not hs hm)
    generalize okPf l = F at *
    have hlong2 : ¬ (1048576 : Int) < (n : Int) := by omega
    have Hlen := hide hlen
    clear hlen
    go_enter Tryz.func14, Tryz.ntmps14
    go_wp2
    go_loopw [3] (fun v wr => ∃ (i : Nat), i ≤ n ∧ v = .int .i64 (i : Int) ∧ Hid (∀ (j : Nat) (s : Sp), j < i → l[j]? = some s → mayS s j = true) ∧ Below w.heap.size w wr) (fun v _ => n - (RowKit.intOf v).toNat)
    case atStart => exact ⟨0, by omega, rfl, hide (fun j s hj => by omega), Below.refl _ _⟩
    case round =>
      obtain ⟨i, hi, rfl, hf, hb⟩ := hrel
      have hbs := hb.size
      by_cases hlt : i < n
      · obtain ⟨ad, q, rfl, hbl, hx, c0, c1, c2, c3, c4, c5⟩ := PfIn.at_ (PfIn.below h hb) hlt
        have hq := hl q (List.mem_of_getElem? hx)
        have HMy := hide (fun (wx : World) => refMayPf_any q i wx hq.1 hq.2)
        have Hn := hide (Hnot.out i q hx)
        have Hy : Hid (mayS q i = true → ∀ (j : Nat) (s : Sp), j < i + 1 → l[j]? = some s → mayS s j = true) := hide (fun hm j s hj hs => by
          by_cases e : j = i
          · subst e
            rw [hx] at hs
            injection hs with hs
            subst hs
            exact hm
          · exact hf.out j s (by omega) hs)
        generalize mayS q i = m at *
        obtain ⟨k, nm, v, d, a, b⟩ := q
        simp only [] at c0 c1 c2 c3 c4 c5 HMy
        have hi1 : (0 : Int) ≤ (i : Int) := by omega
        have hi2 : (i : Int) < (n : Int) := by omega
        clear hx hq hf h hl
        cases m
        · have E : Hid (F = false) := hide (Hn.out rfl)
          clear Hn Hy Hall
          go_wp2_with (first
            | (go_at_call 29
               refine (HMy.out _).mono ?_
               rintro e w1 ⟨rfl, hb1⟩))
          go_ret
          exact ⟨by rw [E.out]; rfl, hb.trans (hb1.mono hbs)⟩
        · have HY := hide (Hy.out rfl)
          clear Hn Hy Hall
          go_wp2_with (first
            | (go_at_call 29
               refine (HMy.out _).mono ?_
               rintro e w1 ⟨rfl, hb1⟩))
          go_roundw
          case rel => exact ⟨i + 1, by omega, by go_num, HY, hb.trans (hb1.mono hbs)⟩
          case measure => simp [RowKit.intOf]; omega
      · have E : Hid (F = decide (1 ≤ n)) := hide (by
          rw [Hall.out fun j s hs => hf.out j s (by have := (List.getElem?_eq_some_iff.1 hs).1; have := Hlen.out; omega) hs, Hlen.out])
        clear hf Hall Hnot h hl
        by_cases h1 : 1 ≤ n
        · have h2 : (1 : Int) ≤ (n : Int) := by omega
          have E2 : Hid (F = true) := hide (by rw [E.out]; simp [h1])
          clear E
          go_wp2
          go_ret
          exact ⟨by rw [E2.out]; rfl, hb⟩
        · have h2 : ¬ (1 : Int) ≤ (n : Int) := by omega
          have E2 : Hid (F = false) := hide (by rw [E.out]; simp [h1])
          clear E
          go_wp2
          go_ret
          exact ⟨by rw [E2.out]; rfl, hb⟩
end Go.Proofs.YtdmejcfnolhplaaGreat.Proof
