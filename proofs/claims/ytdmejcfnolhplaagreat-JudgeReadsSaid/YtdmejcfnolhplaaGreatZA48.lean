/-
  Some texts of this claim, one behind the other: ProofSpec, ProofCheck. What each proves, and its condition, stands at its head.
-/
import Derived.Test.YtdmejcfnolhplaaGreatZA25
import Derived.Test.YtdmejcfnolhplaaGreatZA19
import Derived.Test.YtdmejcfnolhplaaGreatZA47
import Derived.Test.YtdmejcfnolhplaaGreatZA46
import Derived.Deep.OwnRows
import Derived.Test.YtdmejcfnolhplaaGreatZA20
/-
  What the program's functions over proofs have to tell, as premises of the laws' walks; and the chapter's example (awake) over two of them.
-/
namespace Go.Proofs.YtdmejcfnolhplaaGreat.Proof
open Go Go.RowKit Go.Lib Go.Proofs.YtdmejcfnolhplaaGreat.Need Go.Proofs.YtdmejcfnolhplaaGreat.Mani
open Go.Proofs.YtdmejcfnolhplaaGreat.Label (runes fitL runes_step runes_end)
set_option linter.unusedVariables false
def NamesS (l : List Sp) : Prop := ∀ s ∈ l, s.name.size ≤ 1000000000 ∧ s.dest.size ≤ 1000000000
/-! The example. -/
end Go.Proofs.YtdmejcfnolhplaaGreat.Proof
/-
  The contracts of the program's fitsNeed, fitsJoin and Check: which steps, and which proofs, may be. Condition: names of at most 1,000,000,000 bytes.
-/
namespace Go.Proofs.YtdmejcfnolhplaaGreat.Proof
open Go Go.RowKit Go.Lib Go.Proofs.YtdmejcfnolhplaaGreat.Need
open Go.Proofs.YtdmejcfnolhplaaGreat.Label (runes fitL fit_any)
set_option linter.unusedVariables false
set_option linter.unusedSimpArgs false
def needPf (s : Sp) : Bool := if s.kind = 3 then fitL (runes s.dest 0) && Pick.verOk s.ver else decide (s.dest = ByteArray.empty) && decide (s.ver = 0)
def joinPf (s : Sp) (i : Nat) : Bool := if s.kind = 4 then decide (0 ≤ s.a ∧ s.a < i ∧ 0 ≤ s.b ∧ s.b < i) else decide (s.a = 0 ∧ s.b = 0)
theorem may_parts (s : Sp) (i : Nat) : mayS s i = (((decide (1 ≤ s.kind ∧ s.kind ≤ 4) && fitL (runes s.name 0)) && needPf s) && joinPf s i) := rfl
set_option maxHeartbeats 4000000 in
set_option maxRecDepth 100000 in
theorem fitsNeed_any (s : Sp) (w : World) (h2 : s.dest.size ≤ 1000000000) :
    Calls Tryz.prog 47 #[.agg #[.int .i64 s.kind, .string s.name, .int .i64 s.ver, .string s.dest, .int .i64 s.a, .int .i64 s.b]] w fun e w' => e = .returned (.bool (needPf s)) ∧ Below w.heap.size w w' := by
  obtain ⟨k, nm, v, d, a, b⟩ := s
  simp only [] at h2
  have HD := hide (fun (wx : World) => fit_any d wx (by omega))
  have HM : Hid (needPf ⟨k, nm, v, d, a, b⟩ = (if k = 3 then fitL (runes d 0) && Pick.verOk v else decide (d = ByteArray.empty) && decide (v = 0))) := hide rfl
  generalize needPf ⟨k, nm, v, d, a, b⟩ = M at *
  generalize fitL (runes d 0) = z at *
  clear h2
  go_enter Tryz.func47, Tryz.ntmps47
  by_cases hk3 : k = 3
  · have hk31 : (k == 3) = true := beq_iff_eq.2 hk3
    by_cases hv : 0 ≤ v
    · by_cases hv2 : v < 1000000000
      · have hvv : Pick.verOk v = true := by unfold Pick.verOk; simp; omega
        have E : Hid (M = z) := hide (by rw [HM.out]; simp [hk3, hvv])
        clear HM
        try clear hd
        try clear hk3
        try clear hv0
        go_wp2_with (first
          | (go_at_call 42
             refine (HD.out _).mono ?_
             rintro e w2 ⟨rfl, hb2⟩
             have hbe := (alloc_b w (.cells #[.int .i64 k, .string nm, .int .i64 v, .string d, .int .i64 a, .int .i64 b] 53)).trans (hb2.mono (by simp))))
        go_ret
        exact ⟨by rw [E.out]; rfl, by first | exact hbe | exact alloc_b _ _⟩
      · have hvv : Pick.verOk v = false := by unfold Pick.verOk; simp; omega
        have E : Hid (M = false) := hide (by rw [HM.out]; simp [hk3, hvv])
        clear HM
        try clear hd
        try clear hk3
        try clear hv0
        go_wp2_with (first
          | (go_at_call 42
             refine (HD.out _).mono ?_
             rintro e w2 ⟨rfl, hb2⟩
             have hbe := (alloc_b w (.cells #[.int .i64 k, .string nm, .int .i64 v, .string d, .int .i64 a, .int .i64 b] 53)).trans (hb2.mono (by simp))))
        go_ret
        exact ⟨by rw [E.out]; rfl, by first | exact hbe | exact alloc_b _ _⟩
    · have hvv : Pick.verOk v = false := by unfold Pick.verOk; simp; omega
      have E : Hid (M = false) := hide (by rw [HM.out]; simp [hk3, hvv])
      clear HM
      try clear hd
      try clear hk3
      try clear hv0
      go_wp2_with (first
        | (go_at_call 42
           refine (HD.out _).mono ?_
           rintro e w2 ⟨rfl, hb2⟩
           have hbe := (alloc_b w (.cells #[.int .i64 k, .string nm, .int .i64 v, .string d, .int .i64 a, .int .i64 b] 53)).trans (hb2.mono (by simp))))
      go_ret
      exact ⟨by rw [E.out]; rfl, by first | exact hbe | exact alloc_b _ _⟩
  · have hk31 : (k == 3) = false := beq_eq_false_iff_ne.2 hk3
    by_cases hv0 : v = 0
    · have hv01 : (v == 0) = true := beq_iff_eq.2 hv0
      by_cases hd : d = ByteArray.empty
      · have hdd : d.toList.isEmpty = true := by rw [hd, empty_list]; rfl
        have E : Hid (M = true) := hide (by rw [HM.out]; simp [hk3, hv0, hd])
        clear HM
        try clear hd
        try clear hk3
        try clear hv0
        go_wp2_with (first
          | (go_at_call 42
             refine (HD.out _).mono ?_
             rintro e w2 ⟨rfl, hb2⟩
             have hbe := (alloc_b w (.cells #[.int .i64 k, .string nm, .int .i64 v, .string d, .int .i64 a, .int .i64 b] 53)).trans (hb2.mono (by simp))))
        go_ret
        exact ⟨by rw [E.out]; rfl, by first | exact hbe | exact alloc_b _ _⟩
      · have hdd : d.toList.isEmpty = false := by
          cases g : d.toList with
          | nil => exact absurd (eq_empty g) hd
          | cons _ _ => rfl
        have E : Hid (M = false) := hide (by rw [HM.out]; simp [hk3, hd])
        clear HM
        try clear hd
        try clear hk3
        try clear hv0
        go_wp2_with (first
          | (go_at_call 42
             refine (HD.out _).mono ?_
             rintro e w2 ⟨rfl, hb2⟩
             have hbe := (alloc_b w (.cells #[.int .i64 k, .string nm, .int .i64 v, .string d, .int .i64 a, .int .i64 b] 53)).trans (hb2.mono (by simp))))
        go_ret
        exact ⟨by rw [E.out]; rfl, by first | exact hbe | exact alloc_b _ _⟩
    · have hv01 : (v == 0) = false := beq_eq_false_iff_ne.2 hv0
      have E : Hid (M = false) := hide (by rw [HM.out]; simp [hk3, hv0])
      clear HM
      try clear hd
      try clear hk3
      try clear hv0
      go_wp2_with (first
        | (go_at_call 42
           refine (HD.out _).mono ?_
           rintro e w2 ⟨rfl, hb2⟩
           have hbe := (alloc_b w (.cells #[.int .i64 k, .string nm, .int .i64 v, .string d, .int .i64 a, .int .i64 b] 53)).trans (hb2.mono (by simp))))
      go_ret
      exact ⟨by rw [E.out]; rfl, by first | exact hbe | exact alloc_b _ _⟩
set_option maxHeartbeats 4000000 in
set_option maxRecDepth 100000 in
theorem fitsJoin_any (s : Sp) (i : Nat) (w : World) :
    Calls Tryz.prog 48 #[.agg #[.int .i64 s.kind, .string s.name, .int .i64 s.ver, .string s.dest, .int .i64 s.a, .int .i64 s.b], .int .i64 (i : Int)] w fun e w' => e = .returned (.bool (joinPf s i)) ∧ Below w.heap.size w w' := by
  obtain ⟨k, nm, v, d, a, b⟩ := s
  have HM : Hid (joinPf ⟨k, nm, v, d, a, b⟩ i = (if k = 4 then decide (0 ≤ a ∧ a < i ∧ 0 ≤ b ∧ b < i) else decide (a = 0 ∧ b = 0))) := hide rfl
  generalize joinPf ⟨k, nm, v, d, a, b⟩ i = M at *
  go_enter Tryz.func48, Tryz.ntmps48
  by_cases hk4 : k = 4
  · have hk41 : (k == 4) = true := beq_iff_eq.2 hk4
    by_cases ia : 0 ≤ a
    · by_cases ia2 : a < (i : Int)
      · by_cases ib : 0 ≤ b
        · by_cases ib2 : b < (i : Int)
          · have E : Hid (M = true) := hide (by rw [HM.out]; simp [hk4, ia, ia2, ib, ib2])
            clear HM
            try clear hn
            try clear hk4
            try clear ha
            try clear hb
            go_wp2
            go_ret
            exact ⟨by rw [E.out]; rfl, alloc_b _ _⟩
          · have hn : ¬ (0 ≤ a ∧ a < (i : Int) ∧ 0 ≤ b ∧ b < (i : Int)) := by omega
            have E : Hid (M = false) := hide (by rw [HM.out]; simp [hk4, hn])
            clear HM
            try clear hn
            try clear hk4
            try clear ha
            try clear hb
            go_wp2
            go_ret
            exact ⟨by rw [E.out]; rfl, alloc_b _ _⟩
        · have hn : ¬ (0 ≤ a ∧ a < (i : Int) ∧ 0 ≤ b ∧ b < (i : Int)) := by omega
          have E : Hid (M = false) := hide (by rw [HM.out]; simp [hk4, hn])
          clear HM
          try clear hn
          try clear hk4
          try clear ha
          try clear hb
          go_wp2
          go_ret
          exact ⟨by rw [E.out]; rfl, alloc_b _ _⟩
      · have hn : ¬ (0 ≤ a ∧ a < (i : Int) ∧ 0 ≤ b ∧ b < (i : Int)) := by omega
        have E : Hid (M = false) := hide (by rw [HM.out]; simp [hk4, hn])
        clear HM
        try clear hn
        try clear hk4
        try clear ha
        try clear hb
        go_wp2
        go_ret
        exact ⟨by rw [E.out]; rfl, alloc_b _ _⟩
    · have hn : ¬ (0 ≤ a ∧ a < (i : Int) ∧ 0 ≤ b ∧ b < (i : Int)) := by omega
      have E : Hid (M = false) := hide (by rw [HM.out]; simp [hk4, hn])
      clear HM
      try clear hn
      try clear hk4
      try clear ha
      try clear hb
      go_wp2
      go_ret
      exact ⟨by rw [E.out]; rfl, alloc_b _ _⟩
  · have hk41 : (k == 4) = false := beq_eq_false_iff_ne.2 hk4
    by_cases ha : a = 0
    · have ha1 : (a == 0) = true := beq_iff_eq.2 ha
      by_cases hb : b = 0
      · have hb1 : (b == 0) = true := beq_iff_eq.2 hb
        have E : Hid (M = true) := hide (by rw [HM.out]; simp [hk4, ha, hb])
        clear HM
        try clear hn
        try clear hk4
        try clear ha
        try clear hb
        go_wp2
        go_ret
        exact ⟨by rw [E.out]; rfl, alloc_b _ _⟩
      · have hb1 : (b == 0) = false := beq_eq_false_iff_ne.2 hb
        have E : Hid (M = false) := hide (by rw [HM.out]; simp [hk4, ha, hb])
        clear HM
        try clear hn
        try clear hk4
        try clear ha
        try clear hb
        go_wp2
        go_ret
        exact ⟨by rw [E.out]; rfl, alloc_b _ _⟩
    · have ha1 : (a == 0) = false := beq_eq_false_iff_ne.2 ha
      have E : Hid (M = false) := hide (by rw [HM.out]; simp [hk4, ha])
      clear HM
      try clear hn
      try clear hk4
      try clear ha
      try clear hb
      go_wp2
      go_ret
      exact ⟨by rw [E.out]; rfl, alloc_b _ _⟩
set_option maxHeartbeats 8000000 in
set_option maxRecDepth 100000 in
theorem checkPf_any (l : List Sp) (A : Option Addr) (n c : Nat) (w : World) (h : PfOn w A n l) (hn : n ≤ 1000000000) (hl : NamesS l) :
    Calls Tryz.prog 30 #[.slice A n c] w fun e w' => e = .returned (.bool (okPf l)) ∧ Below w.heap.size w w' := by
  have hlen := h.len
  by_cases hlong : 1048576 < n
  · have E := hide (okPf_long (l := l) (by omega))
    generalize okPf l = F at *
    have hlong2 : (1048576 : Int) < (n : Int) := by omega
    have hlong3 : ¬ (n : Int) < 1 := by omega
    clear hlen h hl
    go_enter Tryz.func30, Tryz.ntmps30
    go_wp2
    go_ret
    exact ⟨by rw [E.out]; rfl, Below.refl _ _⟩
  · by_cases h0 : n < 1
    · have E : Hid (okPf l = false) := hide (by
        have : l = [] := List.length_eq_zero_iff.1 (by omega)
        rw [this]; rfl)
      generalize okPf l = F at *
      have hlong3 : (n : Int) < 1 := by omega
      clear hlen h hl
      go_enter Tryz.func30, Tryz.ntmps30
      go_wp2
      go_ret
      exact ⟨by rw [E.out]; rfl, Below.refl _ _⟩
    · have Hall := hide (fun (h2 : OkSteps l) => okPf_of (l := l) (by omega) h2 (by omega))
      have Hnot := hide (fun (i : Nat) (s : Sp) (hs : l[i]? = some s) (hm : mayS s i = false) => okPf_not hs hm)
      generalize okPf l = F at *
      have hlong2 : ¬ (1048576 : Int) < (n : Int) := by omega
      have hlong3 : ¬ (n : Int) < 1 := by omega
      have Hlen := hide hlen
      clear hlen
      go_enter Tryz.func30, Tryz.ntmps30
      go_wp2
      go_loopw [15] (fun v wr => ∃ (i : Nat), i ≤ n ∧ v = .int .i64 (i : Int) ∧ Hid (∀ (j : Nat) (s : Sp), j < i → l[j]? = some s → mayS s j = true) ∧ Below w.heap.size w wr) (fun v _ => n - (RowKit.intOf v).toNat)
      case atStart => exact ⟨0, by omega, rfl, hide (fun j s hj => by omega), Below.refl _ _⟩
      case round =>
        obtain ⟨i, hi, rfl, hf, hb⟩ := hrel
        have hbs := hb.size
        by_cases hlt : i < n
        · obtain ⟨ad, q, rfl, hbl, hx, c0, c1, c2, c3, c4, c5⟩ := PfIn.at_ (PfIn.below h hb) hlt
          have hq := hl q (List.mem_of_getElem? hx)
          have HN := hide (fun (wx : World) => fit_any q.name wx (by omega))
          have HE := hide (fun (wx : World) => fitsNeed_any q wx hq.2)
          have HJ := hide (fun (wx : World) => fitsJoin_any q i wx)
          have HM := hide (may_parts q i)
          have Hn := hide (Hnot.out i q hx)
          have Hy : Hid (mayS q i = true → ∀ (j : Nat) (s : Sp), j < i + 1 → l[j]? = some s → mayS s j = true) := hide (fun hm j s hj hs => by
            by_cases e : j = i
            · subst e
              rw [hx] at hs
              injection hs with hs
              subst hs
              exact hm
            · exact hf.out j s (by omega) hs)
          generalize mayS q i = m at *
          generalize needPf q = u at *
          generalize joinPf q i = x at *
          obtain ⟨k, nm, v, d, a, b⟩ := q
          simp only [] at c0 c1 c2 c3 c4 c5 HN HE HJ HM
          generalize fitL (runes nm 0) = y at *
          have hi1 : (0 : Int) ≤ (i : Int) := by omega
          have hi2 : (i : Int) < (n : Int) := by omega
          clear hx hq h
          by_cases hk1 : k < 1
          · have hk : ¬ (1 ≤ k ∧ k ≤ 4) := by omega
            have E : Hid (F = false) := hide (Hn.out (by rw [HM.out]; simp [hk]))
            clear Hn Hy HM hf Hall Hnot hl
            try clear hk
            go_wp2_with (first
              | (go_at_call 42
                 refine (HN.out _).mono ?_
                 rintro e w1 ⟨rfl, hb1⟩
                 have B1 := (Blk.new wr 53 #[.int .i64 k, .string nm, .int .i64 v, .string d, .int .i64 a, .int .i64 b]).below hb1 (by simp)
                 have hbe := (alloc_b wr (.cells #[.int .i64 k, .string nm, .int .i64 v, .string d, .int .i64 a, .int .i64 b] 53)).trans (hb1.mono (by simp))
                 have p0 := (B1.cell 0).trans (show (#[Value.int .i64 k, .string nm, .int .i64 v, .string d, .int .i64 a, .int .i64 b] : Array Value)[0]? = some (.int .i64 k) from rfl)
                 have p1 := (B1.cell 1).trans (show (#[Value.int .i64 k, .string nm, .int .i64 v, .string d, .int .i64 a, .int .i64 b] : Array Value)[1]? = some (.string nm) from rfl)
                 have p2 := (B1.cell 2).trans (show (#[Value.int .i64 k, .string nm, .int .i64 v, .string d, .int .i64 a, .int .i64 b] : Array Value)[2]? = some (.int .i64 v) from rfl)
                 have p3 := (B1.cell 3).trans (show (#[Value.int .i64 k, .string nm, .int .i64 v, .string d, .int .i64 a, .int .i64 b] : Array Value)[3]? = some (.string d) from rfl)
                 have p4 := (B1.cell 4).trans (show (#[Value.int .i64 k, .string nm, .int .i64 v, .string d, .int .i64 a, .int .i64 b] : Array Value)[4]? = some (.int .i64 a) from rfl)
                 have p5 := (B1.cell 5).trans (show (#[Value.int .i64 k, .string nm, .int .i64 v, .string d, .int .i64 a, .int .i64 b] : Array Value)[5]? = some (.int .i64 b) from rfl))
              | (go_at_call 47
                 clear p0 p1 p2 p3 p4 p5
                 refine (HE.out _).mono ?_
                 rintro e w2 ⟨rfl, hb2⟩
                 have B2 := B1.below hb2 B1.lt
                 have hbe := hbe.trans (hb2.mono hbe.size)
                 have p0 := (B2.cell 0).trans (show (#[Value.int .i64 k, .string nm, .int .i64 v, .string d, .int .i64 a, .int .i64 b] : Array Value)[0]? = some (.int .i64 k) from rfl)
                 have p1 := (B2.cell 1).trans (show (#[Value.int .i64 k, .string nm, .int .i64 v, .string d, .int .i64 a, .int .i64 b] : Array Value)[1]? = some (.string nm) from rfl)
                 have p2 := (B2.cell 2).trans (show (#[Value.int .i64 k, .string nm, .int .i64 v, .string d, .int .i64 a, .int .i64 b] : Array Value)[2]? = some (.int .i64 v) from rfl)
                 have p3 := (B2.cell 3).trans (show (#[Value.int .i64 k, .string nm, .int .i64 v, .string d, .int .i64 a, .int .i64 b] : Array Value)[3]? = some (.string d) from rfl)
                 have p4 := (B2.cell 4).trans (show (#[Value.int .i64 k, .string nm, .int .i64 v, .string d, .int .i64 a, .int .i64 b] : Array Value)[4]? = some (.int .i64 a) from rfl)
                 have p5 := (B2.cell 5).trans (show (#[Value.int .i64 k, .string nm, .int .i64 v, .string d, .int .i64 a, .int .i64 b] : Array Value)[5]? = some (.int .i64 b) from rfl))
              | (go_at_call 48
                 refine (HJ.out _).mono ?_
                 rintro e w3 ⟨rfl, hb3⟩
                 have hbe := hbe.trans (hb3.mono hbe.size)))
            go_ret
            exact ⟨by rw [E.out]; rfl, hb.trans ((alloc_b _ _).mono hbs)⟩
          · by_cases hk2 : 4 < k
            · have hk : ¬ (1 ≤ k ∧ k ≤ 4) := by omega
              have E : Hid (F = false) := hide (Hn.out (by rw [HM.out]; simp [hk]))
              clear Hn Hy HM hf Hall Hnot hl
              try clear hk
              go_wp2_with (first
                | (go_at_call 42
                   refine (HN.out _).mono ?_
                   rintro e w1 ⟨rfl, hb1⟩
                   have B1 := (Blk.new wr 53 #[.int .i64 k, .string nm, .int .i64 v, .string d, .int .i64 a, .int .i64 b]).below hb1 (by simp)
                   have hbe := (alloc_b wr (.cells #[.int .i64 k, .string nm, .int .i64 v, .string d, .int .i64 a, .int .i64 b] 53)).trans (hb1.mono (by simp))
                   have p0 := (B1.cell 0).trans (show (#[Value.int .i64 k, .string nm, .int .i64 v, .string d, .int .i64 a, .int .i64 b] : Array Value)[0]? = some (.int .i64 k) from rfl)
                   have p1 := (B1.cell 1).trans (show (#[Value.int .i64 k, .string nm, .int .i64 v, .string d, .int .i64 a, .int .i64 b] : Array Value)[1]? = some (.string nm) from rfl)
                   have p2 := (B1.cell 2).trans (show (#[Value.int .i64 k, .string nm, .int .i64 v, .string d, .int .i64 a, .int .i64 b] : Array Value)[2]? = some (.int .i64 v) from rfl)
                   have p3 := (B1.cell 3).trans (show (#[Value.int .i64 k, .string nm, .int .i64 v, .string d, .int .i64 a, .int .i64 b] : Array Value)[3]? = some (.string d) from rfl)
                   have p4 := (B1.cell 4).trans (show (#[Value.int .i64 k, .string nm, .int .i64 v, .string d, .int .i64 a, .int .i64 b] : Array Value)[4]? = some (.int .i64 a) from rfl)
                   have p5 := (B1.cell 5).trans (show (#[Value.int .i64 k, .string nm, .int .i64 v, .string d, .int .i64 a, .int .i64 b] : Array Value)[5]? = some (.int .i64 b) from rfl))
                | (go_at_call 47
                   clear p0 p1 p2 p3 p4 p5
                   refine (HE.out _).mono ?_
                   rintro e w2 ⟨rfl, hb2⟩
                   have B2 := B1.below hb2 B1.lt
                   have hbe := hbe.trans (hb2.mono hbe.size)
                   have p0 := (B2.cell 0).trans (show (#[Value.int .i64 k, .string nm, .int .i64 v, .string d, .int .i64 a, .int .i64 b] : Array Value)[0]? = some (.int .i64 k) from rfl)
                   have p1 := (B2.cell 1).trans (show (#[Value.int .i64 k, .string nm, .int .i64 v, .string d, .int .i64 a, .int .i64 b] : Array Value)[1]? = some (.string nm) from rfl)
                   have p2 := (B2.cell 2).trans (show (#[Value.int .i64 k, .string nm, .int .i64 v, .string d, .int .i64 a, .int .i64 b] : Array Value)[2]? = some (.int .i64 v) from rfl)
                   have p3 := (B2.cell 3).trans (show (#[Value.int .i64 k, .string nm, .int .i64 v, .string d, .int .i64 a, .int .i64 b] : Array Value)[3]? = some (.string d) from rfl)
                   have p4 := (B2.cell 4).trans (show (#[Value.int .i64 k, .string nm, .int .i64 v, .string d, .int .i64 a, .int .i64 b] : Array Value)[4]? = some (.int .i64 a) from rfl)
                   have p5 := (B2.cell 5).trans (show (#[Value.int .i64 k, .string nm, .int .i64 v, .string d, .int .i64 a, .int .i64 b] : Array Value)[5]? = some (.int .i64 b) from rfl))
                | (go_at_call 48
                   refine (HJ.out _).mono ?_
                   rintro e w3 ⟨rfl, hb3⟩
                   have hbe := hbe.trans (hb3.mono hbe.size)))
              go_ret
              exact ⟨by rw [E.out]; rfl, hb.trans ((alloc_b _ _).mono hbs)⟩
            · have hk : 1 ≤ k ∧ k ≤ 4 := by omega
              cases y
              · have E : Hid (F = false) := hide (Hn.out (by rw [HM.out]; simp))
                clear Hn Hy HM hf Hall Hnot hl
                try clear hk
                go_wp2_with (first
                  | (go_at_call 42
                     refine (HN.out _).mono ?_
                     rintro e w1 ⟨rfl, hb1⟩
                     have B1 := (Blk.new wr 53 #[.int .i64 k, .string nm, .int .i64 v, .string d, .int .i64 a, .int .i64 b]).below hb1 (by simp)
                     have hbe := (alloc_b wr (.cells #[.int .i64 k, .string nm, .int .i64 v, .string d, .int .i64 a, .int .i64 b] 53)).trans (hb1.mono (by simp))
                     have p0 := (B1.cell 0).trans (show (#[Value.int .i64 k, .string nm, .int .i64 v, .string d, .int .i64 a, .int .i64 b] : Array Value)[0]? = some (.int .i64 k) from rfl)
                     have p1 := (B1.cell 1).trans (show (#[Value.int .i64 k, .string nm, .int .i64 v, .string d, .int .i64 a, .int .i64 b] : Array Value)[1]? = some (.string nm) from rfl)
                     have p2 := (B1.cell 2).trans (show (#[Value.int .i64 k, .string nm, .int .i64 v, .string d, .int .i64 a, .int .i64 b] : Array Value)[2]? = some (.int .i64 v) from rfl)
                     have p3 := (B1.cell 3).trans (show (#[Value.int .i64 k, .string nm, .int .i64 v, .string d, .int .i64 a, .int .i64 b] : Array Value)[3]? = some (.string d) from rfl)
                     have p4 := (B1.cell 4).trans (show (#[Value.int .i64 k, .string nm, .int .i64 v, .string d, .int .i64 a, .int .i64 b] : Array Value)[4]? = some (.int .i64 a) from rfl)
                     have p5 := (B1.cell 5).trans (show (#[Value.int .i64 k, .string nm, .int .i64 v, .string d, .int .i64 a, .int .i64 b] : Array Value)[5]? = some (.int .i64 b) from rfl))
                  | (go_at_call 47
                     clear p0 p1 p2 p3 p4 p5
                     refine (HE.out _).mono ?_
                     rintro e w2 ⟨rfl, hb2⟩
                     have B2 := B1.below hb2 B1.lt
                     have hbe := hbe.trans (hb2.mono hbe.size)
                     have p0 := (B2.cell 0).trans (show (#[Value.int .i64 k, .string nm, .int .i64 v, .string d, .int .i64 a, .int .i64 b] : Array Value)[0]? = some (.int .i64 k) from rfl)
                     have p1 := (B2.cell 1).trans (show (#[Value.int .i64 k, .string nm, .int .i64 v, .string d, .int .i64 a, .int .i64 b] : Array Value)[1]? = some (.string nm) from rfl)
                     have p2 := (B2.cell 2).trans (show (#[Value.int .i64 k, .string nm, .int .i64 v, .string d, .int .i64 a, .int .i64 b] : Array Value)[2]? = some (.int .i64 v) from rfl)
                     have p3 := (B2.cell 3).trans (show (#[Value.int .i64 k, .string nm, .int .i64 v, .string d, .int .i64 a, .int .i64 b] : Array Value)[3]? = some (.string d) from rfl)
                     have p4 := (B2.cell 4).trans (show (#[Value.int .i64 k, .string nm, .int .i64 v, .string d, .int .i64 a, .int .i64 b] : Array Value)[4]? = some (.int .i64 a) from rfl)
                     have p5 := (B2.cell 5).trans (show (#[Value.int .i64 k, .string nm, .int .i64 v, .string d, .int .i64 a, .int .i64 b] : Array Value)[5]? = some (.int .i64 b) from rfl))
                  | (go_at_call 48
                     refine (HJ.out _).mono ?_
                     rintro e w3 ⟨rfl, hb3⟩
                     have hbe := hbe.trans (hb3.mono hbe.size)))
                go_ret
                exact ⟨by rw [E.out]; rfl, hb.trans (hbe.mono hbs)⟩
              · cases u
                · have E : Hid (F = false) := hide (Hn.out (by rw [HM.out]; simp))
                  clear Hn Hy HM hf Hall Hnot hl
                  try clear hk
                  go_wp2_with (first
                    | (go_at_call 42
                       refine (HN.out _).mono ?_
                       rintro e w1 ⟨rfl, hb1⟩
                       have B1 := (Blk.new wr 53 #[.int .i64 k, .string nm, .int .i64 v, .string d, .int .i64 a, .int .i64 b]).below hb1 (by simp)
                       have hbe := (alloc_b wr (.cells #[.int .i64 k, .string nm, .int .i64 v, .string d, .int .i64 a, .int .i64 b] 53)).trans (hb1.mono (by simp))
                       have p0 := (B1.cell 0).trans (show (#[Value.int .i64 k, .string nm, .int .i64 v, .string d, .int .i64 a, .int .i64 b] : Array Value)[0]? = some (.int .i64 k) from rfl)
                       have p1 := (B1.cell 1).trans (show (#[Value.int .i64 k, .string nm, .int .i64 v, .string d, .int .i64 a, .int .i64 b] : Array Value)[1]? = some (.string nm) from rfl)
                       have p2 := (B1.cell 2).trans (show (#[Value.int .i64 k, .string nm, .int .i64 v, .string d, .int .i64 a, .int .i64 b] : Array Value)[2]? = some (.int .i64 v) from rfl)
                       have p3 := (B1.cell 3).trans (show (#[Value.int .i64 k, .string nm, .int .i64 v, .string d, .int .i64 a, .int .i64 b] : Array Value)[3]? = some (.string d) from rfl)
                       have p4 := (B1.cell 4).trans (show (#[Value.int .i64 k, .string nm, .int .i64 v, .string d, .int .i64 a, .int .i64 b] : Array Value)[4]? = some (.int .i64 a) from rfl)
                       have p5 := (B1.cell 5).trans (show (#[Value.int .i64 k, .string nm, .int .i64 v, .string d, .int .i64 a, .int .i64 b] : Array Value)[5]? = some (.int .i64 b) from rfl))
                    | (go_at_call 47
                       clear p0 p1 p2 p3 p4 p5
                       refine (HE.out _).mono ?_
                       rintro e w2 ⟨rfl, hb2⟩
                       have B2 := B1.below hb2 B1.lt
                       have hbe := hbe.trans (hb2.mono hbe.size)
                       have p0 := (B2.cell 0).trans (show (#[Value.int .i64 k, .string nm, .int .i64 v, .string d, .int .i64 a, .int .i64 b] : Array Value)[0]? = some (.int .i64 k) from rfl)
                       have p1 := (B2.cell 1).trans (show (#[Value.int .i64 k, .string nm, .int .i64 v, .string d, .int .i64 a, .int .i64 b] : Array Value)[1]? = some (.string nm) from rfl)
                       have p2 := (B2.cell 2).trans (show (#[Value.int .i64 k, .string nm, .int .i64 v, .string d, .int .i64 a, .int .i64 b] : Array Value)[2]? = some (.int .i64 v) from rfl)
                       have p3 := (B2.cell 3).trans (show (#[Value.int .i64 k, .string nm, .int .i64 v, .string d, .int .i64 a, .int .i64 b] : Array Value)[3]? = some (.string d) from rfl)
                       have p4 := (B2.cell 4).trans (show (#[Value.int .i64 k, .string nm, .int .i64 v, .string d, .int .i64 a, .int .i64 b] : Array Value)[4]? = some (.int .i64 a) from rfl)
                       have p5 := (B2.cell 5).trans (show (#[Value.int .i64 k, .string nm, .int .i64 v, .string d, .int .i64 a, .int .i64 b] : Array Value)[5]? = some (.int .i64 b) from rfl))
                    | (go_at_call 48
                       refine (HJ.out _).mono ?_
                       rintro e w3 ⟨rfl, hb3⟩
                       have hbe := hbe.trans (hb3.mono hbe.size)))
                  go_ret
                  exact ⟨by rw [E.out]; rfl, hb.trans (hbe.mono hbs)⟩
                · cases x
                  · have E : Hid (F = false) := hide (Hn.out (by rw [HM.out]; simp))
                    clear Hn Hy HM hf Hall Hnot hl
                    try clear hk
                    go_wp2_with (first
                      | (go_at_call 42
                         refine (HN.out _).mono ?_
                         rintro e w1 ⟨rfl, hb1⟩
                         have B1 := (Blk.new wr 53 #[.int .i64 k, .string nm, .int .i64 v, .string d, .int .i64 a, .int .i64 b]).below hb1 (by simp)
                         have hbe := (alloc_b wr (.cells #[.int .i64 k, .string nm, .int .i64 v, .string d, .int .i64 a, .int .i64 b] 53)).trans (hb1.mono (by simp))
                         have p0 := (B1.cell 0).trans (show (#[Value.int .i64 k, .string nm, .int .i64 v, .string d, .int .i64 a, .int .i64 b] : Array Value)[0]? = some (.int .i64 k) from rfl)
                         have p1 := (B1.cell 1).trans (show (#[Value.int .i64 k, .string nm, .int .i64 v, .string d, .int .i64 a, .int .i64 b] : Array Value)[1]? = some (.string nm) from rfl)
                         have p2 := (B1.cell 2).trans (show (#[Value.int .i64 k, .string nm, .int .i64 v, .string d, .int .i64 a, .int .i64 b] : Array Value)[2]? = some (.int .i64 v) from rfl)
                         have p3 := (B1.cell 3).trans (show (#[Value.int .i64 k, .string nm, .int .i64 v, .string d, .int .i64 a, .int .i64 b] : Array Value)[3]? = some (.string d) from rfl)
                         have p4 := (B1.cell 4).trans (show (#[Value.int .i64 k, .string nm, .int .i64 v, .string d, .int .i64 a, .int .i64 b] : Array Value)[4]? = some (.int .i64 a) from rfl)
                         have p5 := (B1.cell 5).trans (show (#[Value.int .i64 k, .string nm, .int .i64 v, .string d, .int .i64 a, .int .i64 b] : Array Value)[5]? = some (.int .i64 b) from rfl))
                      | (go_at_call 47
                         clear p0 p1 p2 p3 p4 p5
                         refine (HE.out _).mono ?_
                         rintro e w2 ⟨rfl, hb2⟩
                         have B2 := B1.below hb2 B1.lt
                         have hbe := hbe.trans (hb2.mono hbe.size)
                         have p0 := (B2.cell 0).trans (show (#[Value.int .i64 k, .string nm, .int .i64 v, .string d, .int .i64 a, .int .i64 b] : Array Value)[0]? = some (.int .i64 k) from rfl)
                         have p1 := (B2.cell 1).trans (show (#[Value.int .i64 k, .string nm, .int .i64 v, .string d, .int .i64 a, .int .i64 b] : Array Value)[1]? = some (.string nm) from rfl)
                         have p2 := (B2.cell 2).trans (show (#[Value.int .i64 k, .string nm, .int .i64 v, .string d, .int .i64 a, .int .i64 b] : Array Value)[2]? = some (.int .i64 v) from rfl)
                         have p3 := (B2.cell 3).trans (show (#[Value.int .i64 k, .string nm, .int .i64 v, .string d, .int .i64 a, .int .i64 b] : Array Value)[3]? = some (.string d) from rfl)
                         have p4 := (B2.cell 4).trans (show (#[Value.int .i64 k, .string nm, .int .i64 v, .string d, .int .i64 a, .int .i64 b] : Array Value)[4]? = some (.int .i64 a) from rfl)
                         have p5 := (B2.cell 5).trans (show (#[Value.int .i64 k, .string nm, .int .i64 v, .string d, .int .i64 a, .int .i64 b] : Array Value)[5]? = some (.int .i64 b) from rfl))
                      | (go_at_call 48
                         refine (HJ.out _).mono ?_
                         rintro e w3 ⟨rfl, hb3⟩
                         have hbe := hbe.trans (hb3.mono hbe.size)))
                    go_ret
                    exact ⟨by rw [E.out]; rfl, hb.trans (hbe.mono hbs)⟩
                  · have HY := hide (Hy.out (by rw [HM.out]; simp [hk]))
                    clear Hn Hy HM hf Hall Hnot hl hk
                    go_wp2_with (first
                      | (go_at_call 42
                         refine (HN.out _).mono ?_
                         rintro e w1 ⟨rfl, hb1⟩
                         have B1 := (Blk.new wr 53 #[.int .i64 k, .string nm, .int .i64 v, .string d, .int .i64 a, .int .i64 b]).below hb1 (by simp)
                         have hbe := (alloc_b wr (.cells #[.int .i64 k, .string nm, .int .i64 v, .string d, .int .i64 a, .int .i64 b] 53)).trans (hb1.mono (by simp))
                         have p0 := (B1.cell 0).trans (show (#[Value.int .i64 k, .string nm, .int .i64 v, .string d, .int .i64 a, .int .i64 b] : Array Value)[0]? = some (.int .i64 k) from rfl)
                         have p1 := (B1.cell 1).trans (show (#[Value.int .i64 k, .string nm, .int .i64 v, .string d, .int .i64 a, .int .i64 b] : Array Value)[1]? = some (.string nm) from rfl)
                         have p2 := (B1.cell 2).trans (show (#[Value.int .i64 k, .string nm, .int .i64 v, .string d, .int .i64 a, .int .i64 b] : Array Value)[2]? = some (.int .i64 v) from rfl)
                         have p3 := (B1.cell 3).trans (show (#[Value.int .i64 k, .string nm, .int .i64 v, .string d, .int .i64 a, .int .i64 b] : Array Value)[3]? = some (.string d) from rfl)
                         have p4 := (B1.cell 4).trans (show (#[Value.int .i64 k, .string nm, .int .i64 v, .string d, .int .i64 a, .int .i64 b] : Array Value)[4]? = some (.int .i64 a) from rfl)
                         have p5 := (B1.cell 5).trans (show (#[Value.int .i64 k, .string nm, .int .i64 v, .string d, .int .i64 a, .int .i64 b] : Array Value)[5]? = some (.int .i64 b) from rfl))
                      | (go_at_call 47
                         clear p0 p1 p2 p3 p4 p5
                         refine (HE.out _).mono ?_
                         rintro e w2 ⟨rfl, hb2⟩
                         have B2 := B1.below hb2 B1.lt
                         have hbe := hbe.trans (hb2.mono hbe.size)
                         have p0 := (B2.cell 0).trans (show (#[Value.int .i64 k, .string nm, .int .i64 v, .string d, .int .i64 a, .int .i64 b] : Array Value)[0]? = some (.int .i64 k) from rfl)
                         have p1 := (B2.cell 1).trans (show (#[Value.int .i64 k, .string nm, .int .i64 v, .string d, .int .i64 a, .int .i64 b] : Array Value)[1]? = some (.string nm) from rfl)
                         have p2 := (B2.cell 2).trans (show (#[Value.int .i64 k, .string nm, .int .i64 v, .string d, .int .i64 a, .int .i64 b] : Array Value)[2]? = some (.int .i64 v) from rfl)
                         have p3 := (B2.cell 3).trans (show (#[Value.int .i64 k, .string nm, .int .i64 v, .string d, .int .i64 a, .int .i64 b] : Array Value)[3]? = some (.string d) from rfl)
                         have p4 := (B2.cell 4).trans (show (#[Value.int .i64 k, .string nm, .int .i64 v, .string d, .int .i64 a, .int .i64 b] : Array Value)[4]? = some (.int .i64 a) from rfl)
                         have p5 := (B2.cell 5).trans (show (#[Value.int .i64 k, .string nm, .int .i64 v, .string d, .int .i64 a, .int .i64 b] : Array Value)[5]? = some (.int .i64 b) from rfl))
                      | (go_at_call 48
                         refine (HJ.out _).mono ?_
                         rintro e w3 ⟨rfl, hb3⟩
                         have hbe := hbe.trans (hb3.mono hbe.size)))
                    have hbz := hb.trans (hbe.mono hbs)
                    go_roundw
                    case rel => exact ⟨i + 1, by omega, by go_num, HY, hbz⟩
                    case measure => simp [RowKit.intOf]; omega
        · have E : Hid (F = true) := hide (Hall.out fun j s hs => hf.out j s (by have := (List.getElem?_eq_some_iff.1 hs).1; have := Hlen.out; omega) hs)
          clear hf Hall Hnot h hl
          go_wp2
          go_ret
          exact ⟨by rw [E.out]; rfl, hb⟩
end Go.Proofs.YtdmejcfnolhplaaGreat.Proof
