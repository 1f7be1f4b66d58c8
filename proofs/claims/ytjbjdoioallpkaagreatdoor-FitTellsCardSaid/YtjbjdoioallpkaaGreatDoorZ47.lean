/-
  Some texts of this claim, one behind the other: FitWrong, FitSol. What each proves, and its condition, stands at its head.
-/
import Derived.Test.YtjbjdoioallpkaaGreatDoorZ45
import Derived.Test.YtjbjdoioallpkaaGreatDoorZ46
import Derived.Test.YtjbjdoioallpkaaGreatDoorZ12
import Derived.Laws.EntriesVeiled
/-
  Contracts of the program's five rules, and of Wrong. Condition: what stands when the program is asked (AskedF).
-/
namespace Go.Proofs.YtjbjdoioallpkaaGreatDoor.Fit
open Go Go.RowKit Go.Lib Go.Proofs.YtjbjdoioallpkaaGreatDoor.Span Go.Proofs.YtjbjdoioallpkaaGreatDoor.Need Go.Proofs.YtjbjdoioallpkaaGreatDoor.Mani Go.Proofs.YtjbjdoioallpkaaGreatDoor.Wire Go.Proofs.YtjbjdoioallpkaaGreatDoor.Depot Go.Proofs.YtjbjdoioallpkaaGreatDoor.Index Go.Proofs.YtjbjdoioallpkaaGreatDoor.Reach Go.Proofs.YtjbjdoioallpkaaGreatDoor.Pick
open Go.Proofs.YtjbjdoioallpkaaGreatDoor.Ver (Units)
set_option linter.unusedVariables false
/-- What a rule tells. -/
def RuleT (nm : ByteArray) (b : Bool) (w : World) (e : Ending) (w' : World) : Prop := e = .returned (.tuple #[.string nm, .bool b]) ∧ Below w.heap.size w w'
section
variable {X : List Kn} {root : List Nd} {l : List Pk} {pv : Value} {A : Option Addr} {n : Nat} {Al : Option Addr} {nl cl : Nat} {w : World}
set_option maxHeartbeats 4000000 in
set_option maxRecDepth 100000 in
theorem unfit_any (c : Nat) (ha : AskedF X root l pv A n Al nl cl w) :
    Calls Tryz.prog 42 #[.agg #[pv, .slice A n c, .slice Al nl cl]] w (RuleT ByteArray.empty (!okP l) w) := by
  obtain ⟨⟨⟨o, rfl⟩, hX⟩, hf, hS, hXl, h, hn, hok, hr, hp, hnc, hnl, hq, hU⟩ := ha
  unfold RuleT
  have hba := alloc_b w (.cells #[.pointer o, .slice A n c, .slice Al nl cl] 61)
  have HC := hide (checkP_any l Al nl cl _ (hp.on hba) (fun q h => by have := hq q h; omega) (by omega) (hU.below hba))
  generalize okP l = b at *
  clear hX hf hS hXl h hn hok hr hp hnc hnl hq hU
  go_enter Tryz.func42, Tryz.ntmps42
  go_wp2_with (first
    | (go_at_call 63
       refine HC.out.mono ?_
       rintro e w1 ⟨rfl, hb1⟩
       have hbw := hba.trans (hb1.mono hba.size)))
  go_ret2
  exact ⟨rfl, hbw⟩
set_option maxHeartbeats 4000000 in
set_option maxRecDepth 100000 in
theorem rootUnmet_any (c : Nat) (ha : AskedF X root l pv A n Al nl cl w) (hokP : okP l = true) :
    Calls Tryz.prog 43 #[.agg #[pv, .slice A n c, .slice Al nl cl]] w (RuleT (nameO (unmetN l root)) (unmetN l root).isSome w) := by
  obtain ⟨⟨⟨o, rfl⟩, hX⟩, hf, hS, hXl, h, hn, hok, hr, hp, hnc, hnl, hq, hU⟩ := ha
  unfold RuleT
  have hba := alloc_b w (.cells #[.pointer o, .slice A n c, .slice Al nl cl] 61)
  have HC := hide (unmet_any root l A Al n c nl cl _ (h.on hba) (hp.on hba) (okP_iff.1 hokP).1 (by omega) (by omega) (fun q hq => by have := ((okS_parts hok).2.2.2 q hq).2; omega))
  generalize unmetN l root = r at *
  clear hX hf hS hXl h hn hok hr hp hnc hnl hq hU hokP
  go_enter Tryz.func43, Tryz.ntmps43
  go_wp2_with (first
    | (go_at_call 64
       refine HC.out.mono ?_
       rintro e w1 ⟨rfl, hb1⟩
       have hbw := hba.trans (hb1.mono hba.size)))
  go_ret2
  exact ⟨rfl, hbw⟩
set_option maxHeartbeats 4000000 in
set_option maxRecDepth 100000 in
theorem unreleased_any (c : Nat) (ha : AskedF X root l pv A n Al nl cl w) :
    Calls Tryz.prog 44 #[.agg #[pv, .slice A n c, .slice Al nl cl]] w (RuleT (nameO (l.find? (lacksX X))) (l.find? (lacksX X)).isSome w) := by
  obtain ⟨⟨⟨o, rfl⟩, hX⟩, hf, hS, hXl, h, hn, hok, hr, hp, hnc, hnl, hq, hU⟩ := ha
  unfold RuleT
  have hba := alloc_b w (.cells #[.pointer o, .slice A n c, .slice Al nl cl] 61)
  have hB := Blk.new w 61 #[.pointer o, .slice A n c, .slice Al nl cl]
  have HC := hide (first_any (lacksX X) 66 (.pointer (some ⟨w.heap.size, 0, none⟩)) l Al nl cl _ (enters_of Tryz.func66 (by kernel_rfl) rfl) (hp.on hba) (by omega)
    fun q wx hm hb => unreleased1_any X q.1 q.2 o A Al n c nl cl w.heap.size wx ((hX.on hba).on hb) hf (by have := hq q hm; omega) (hB.below hb hB.lt))
  generalize l.find? (lacksX X) = r at *
  clear hX hf hS hXl h hn hok hr hp hnc hnl hq hU hB
  go_enter Tryz.func44, Tryz.ntmps44
  go_wp2_with (first
    | (go_at_call 65
       refine HC.out.mono ?_
       rintro e w1 ⟨rfl, hb1⟩
       have hbw := hba.trans (hb1.mono hba.size)))
  go_ret2
  exact ⟨rfl, hbw⟩
set_option maxHeartbeats 4000000 in
set_option maxRecDepth 100000 in
theorem releaseUnmet_any (c : Nat) (ha : AskedF X root l pv A n Al nl cl w) (hokP : okP l = true) :
    Calls Tryz.prog 45 #[.agg #[pv, .slice A n c, .slice Al nl cl]] w (RuleT (nameO (l.find? (unmetX X l))) (l.find? (unmetX X l)).isSome w) := by
  obtain ⟨⟨⟨o, rfl⟩, hX⟩, hf, hS, hXl, h, hn, hok, hr, hp, hnc, hnl, hq, hU⟩ := ha
  unfold RuleT
  have hba := alloc_b w (.cells #[.pointer o, .slice A n c, .slice Al nl cl] 61)
  have hB := Blk.new w 61 #[.pointer o, .slice A n c, .slice Al nl cl]
  have HC := hide (first_any (unmetX X l) 67 (.pointer (some ⟨w.heap.size, 0, none⟩)) l Al nl cl _ (enters_of Tryz.func67 (by kernel_rfl) rfl) (hp.on hba) (by omega)
    fun q wx hm hb => releaseUnmet1_any X l q.1 q.2 o A Al n c nl cl w.heap.size wx ((hX.on hba).on hb) hf hS (by have := hq q hm; omega) ((hp.on hba).on hb) (okP_iff.1 hokP).1 (by omega) (hB.below hb hB.lt))
  generalize l.find? (unmetX X l) = r at *
  clear hX hf hS hXl h hn hok hr hp hnc hnl hq hU hB hokP
  go_enter Tryz.func45, Tryz.ntmps45
  go_wp2_with (first
    | (go_at_call 65
       refine HC.out.mono ?_
       rintro e w1 ⟨rfl, hb1⟩
       have hbw := hba.trans (hb1.mono hba.size)))
  go_ret2
  exact ⟨rfl, hbw⟩
/-- Is a pick needed by nothing? -/
def idleX (X : List Kn) (root : List Nd) (l : List Pk) (p : Pk) : Bool := !memB p.1 (neededX X root l)
set_option maxHeartbeats 4000000 in
set_option maxRecDepth 100000 in
theorem unneeded_any (c : Nat) (ha : AskedF X root l pv A n Al nl cl w) (hokP : okP l = true) :
    Calls Tryz.prog 46 #[.agg #[pv, .slice A n c, .slice Al nl cl]] w (RuleT (nameO (l.find? (idleX X root l))) (l.find? (idleX X root l)).isSome w) := by
  have hba := alloc_b w (.cells #[pv, .slice A n c, .slice Al nl cl] 61)
  have HN := hide (specNeeded X root l pv A n c Al nl cl _ (ha.on hba) hokP)
  obtain ⟨⟨⟨o, rfl⟩, hX⟩, hf, hS, hXl, h, hn, hok, hr, hp, hnc, hnl, hq, hU⟩ := ha
  unfold RuleT
  unfold MakesT at HN
  have hB := Blk.new w 61 #[.pointer o, .slice A n c, .slice Al nl cl]
  have hno := needed_ok X root l
  have hlen : (neededX X root l).length ≤ 400 := len_may hS (by rw [h.len]; exact hn) (by rw [hp.len]; exact hnl) hno.1 fun z hz => (hno.2 z).1 hz
  have HC := hide (fun (A9 : Option Addr) (n9 c9 g : Nat) (w9 : World) (hb9 : Below w.heap.size w w9) (hT : TxOn w9 A9 n9 (neededX X root l)) (h9 : Blk w9 g 40 #[.slice A9 n9 c9]) =>
    first_any (idleX X root l) 68 (.pointer (some ⟨g, 0, none⟩)) l Al nl cl w9 (enters_of Tryz.func68 (by kernel_rfl) rfl) (hp.on hb9) (by omega)
    fun q wx hm hb => unneeded1_any (neededX X root l) q.1 q.2 A9 n9 c9 g wx (hT.on hb) hno.1 (by rw [← hT.len]; omega) (h9.below hb h9.lt))
  generalize l.find? (idleX X root l) = r at *
  clear hX hf hS hXl h hn hok hr hp hnc hnl hq hU hokP hno hlen
  generalize neededX X root l = L at *
  go_enter Tryz.func46, Tryz.ntmps46
  go_wp2_with (first
    | (go_at_call 16
       refine HN.out.mono ?_
       rintro e w1 ⟨A9, n9, c9, rfl, hT9, hb1⟩
       have hbw := hba.trans (hb1.mono hba.size)
       have hB1 := (hB.below hb1 hB.lt).alloc (.cells #[.slice A9 n9 c9] 40)
       have k2 := hB1.cell 2
       have hbw2 := hbw.alloc hbw.size (.cells #[.slice A9 n9 c9] 40)
       have hT2 := hT9.on (alloc_b w1 (.cells #[.slice A9 n9 c9] 40))
       have h92 := Blk.new w1 40 #[.slice A9 n9 c9])
    | (go_at_call 65
       refine (HC.out _ _ _ _ _ hbw2 hT2 h92).mono ?_
       rintro e w3 ⟨rfl, hb3⟩
       have hbw3 := hbw2.trans (hb3.mono hbw2.size)))
  go_ret2
  exact ⟨rfl, hbw3⟩
/-- What is wrong, rule by rule. -/
theorem wrong_is (X : List Kn) (root : List Nd) (l : List Pk) : wrongX X root l =
    if (!okP l) = true then (1, ByteArray.empty) else if (unmetN l root).isSome = true then (2, nameO (unmetN l root)) else if (l.find? (lacksX X)).isSome = true then (3, nameO (l.find? (lacksX X)))
    else if (l.find? (unmetX X l)).isSome = true then (4, nameO (l.find? (unmetX X l))) else if (l.find? (idleX X root l)).isSome = true then (5, nameO (l.find? (idleX X root l))) else (0, ByteArray.empty) := by
  unfold wrongX
  have e5 : (l.find? fun p : Pk => !memB p.1 (neededX X root l)) = l.find? (idleX X root l) := rfl
  have e2 : (root.find? fun q : Nd => !metP l q) = unmetN l root := rfl
  rw [e5, e2]
  cases okP l
  · rfl
  · rw [if_neg (by simp), if_neg (by simp)]
    cases unmetN l root with
    | some q => rfl
    | none =>
      cases l.find? (lacksX X) with
      | some q => rfl
      | none =>
        cases l.find? (unmetX X l) with
        | some q => rfl
        | none =>
          cases l.find? (idleX X root l) with
          | some q => rfl
          | none => rfl
theorem nameO_size {α : Type} {s : List (ByteArray × α)} {P : ByteArray × α → Bool} {k : Nat} (h : ∀ q ∈ s, q.1.size ≤ k) : (nameO (s.find? P)).size ≤ k := by
  unfold nameO
  cases e : s.find? P with
  | none => exact Nat.zero_le _
  | some q => exact h q (List.mem_of_find?_eq_some e)
end
section
variable {X : List Kn} {root : List Nd} {l : List Pk} {o : Option Addr} {A : Option Addr} {n c : Nat} {Al : Option Addr} {nl cl : Nat} {w : World}
set_option maxHeartbeats 8000000 in
set_option maxRecDepth 100000 in
theorem wrong1_any {x1 : ByteArray} (H1 : Hid (∀ wx : World, Below w.heap.size w wx → Calls Tryz.prog 42 #[.agg #[.pointer o, .slice A n c, .slice Al nl cl]] wx fun e w' => e = .returned (.tuple #[.string x1, .bool true]) ∧ Below wx.heap.size wx w')) (hx : x1.size ≤ 1000000000) :
    Calls Tryz.prog 11 #[.pointer o, .slice A n c, .slice Al nl cl] w fun e w' => e = .returned (.tuple #[.int .i64 1, .string x1]) ∧ Below w.heap.size w w' := by
  have hba := alloc_b w (.cells #[.pointer o, .slice A n c, .slice Al nl cl] 61)
  have hB := Blk.new w 61 #[.pointer o, .slice A n c, .slice Al nl cl]
  have H0 := hide (rules_any (w.alloc (.cells #[.pointer o, .slice A n c, .slice Al nl cl] 61)))
  have HC := hide (fun (wx : World) => Label.clone_any x1 wx hx)
  have i0 := rule_at0
  have i1 := rule_at1
  have i2 := rule_at2
  have i3 := rule_at3
  have i4 := rule_at4
  generalize rulesV = RV at *
  go_enter Tryz.func11, Tryz.ntmps11
  go_wp2_with (first
    | (go_at_call 23
       refine H0.out.mono ?_
       rintro e w0 ⟨rfl, hb0⟩
       have hbw0 := hba.trans (hb0.mono hba.size)
       have hB0 := hB.below hb0 hB.lt))
  clear hb0 H0 hba hB
  refine wp_loop_rounds 6 ?_
  have hbv1 := hbw0.alloc hbw0.size (.cells #[.int .i64 1, .func (.func 42) #[] #[]] 64)
  have hBv1 := hB0.alloc (.cells #[.int .i64 1, .func (.func 42) #[] #[]] 64)
  have q1_0 := hBv1.cell 0
  have q1_1 := hBv1.cell 1
  have q1_2 := hBv1.cell 2
  have hr1 := Blk.new w0 64 #[.int .i64 1, .func (.func 42) #[] #[]]
  rw [rounds_succ]
  go_upto_region 7 with (first
    | (go_at_call 42
       refine (H1.out _ hbv1).mono ?_
       rintro e w1 ⟨rfl, hb1⟩
       have hbw1 := hbv1.trans (hb1.mono hbv1.size)
       have hB1 := hBv1.below hb1 hBv1.lt
       have hs1 := hr1.below hb1 hr1.lt
       have s1 := hs1.cell 0))
  clear q1_0 q1_1 q1_2
  go_region_held3 (fun w' => w'.cell? ⟨w0.heap.size, 0, none⟩ = some (.int .i64 1)) (first | exact s9 | exact s1 | go_keep)
    (first
      | (go_at_call 24
         refine (HC.out _).mono ?_
         rintro e w9 ⟨rfl, hb9⟩
         have hbw9 : Below w.heap.size w w9 := (hbw1.drew).trans (hb9.mono hbw1.size)
         have s9 : w9.cell? ⟨w0.heap.size, 0, none⟩ = some (.int .i64 1) := (hb9.cell (p := ⟨w0.heap.size, 0, none⟩) hs1.lt).trans s1))
  go_wp2
  go_ret2
  exact ⟨rfl, hbw9⟩
set_option maxHeartbeats 8000000 in
set_option maxRecDepth 100000 in
theorem wrong2_any {x1 x2 : ByteArray} (H1 : Hid (∀ wx : World, Below w.heap.size w wx → Calls Tryz.prog 42 #[.agg #[.pointer o, .slice A n c, .slice Al nl cl]] wx fun e w' => e = .returned (.tuple #[.string x1, .bool false]) ∧ Below wx.heap.size wx w')) (H2 : Hid (∀ wx : World, Below w.heap.size w wx → Calls Tryz.prog 43 #[.agg #[.pointer o, .slice A n c, .slice Al nl cl]] wx fun e w' => e = .returned (.tuple #[.string x2, .bool true]) ∧ Below wx.heap.size wx w')) (hx : x2.size ≤ 1000000000) :
    Calls Tryz.prog 11 #[.pointer o, .slice A n c, .slice Al nl cl] w fun e w' => e = .returned (.tuple #[.int .i64 2, .string x2]) ∧ Below w.heap.size w w' := by
  have hba := alloc_b w (.cells #[.pointer o, .slice A n c, .slice Al nl cl] 61)
  have hB := Blk.new w 61 #[.pointer o, .slice A n c, .slice Al nl cl]
  have H0 := hide (rules_any (w.alloc (.cells #[.pointer o, .slice A n c, .slice Al nl cl] 61)))
  have HC := hide (fun (wx : World) => Label.clone_any x2 wx hx)
  have i0 := rule_at0
  have i1 := rule_at1
  have i2 := rule_at2
  have i3 := rule_at3
  have i4 := rule_at4
  generalize rulesV = RV at *
  go_enter Tryz.func11, Tryz.ntmps11
  go_wp2_with (first
    | (go_at_call 23
       refine H0.out.mono ?_
       rintro e w0 ⟨rfl, hb0⟩
       have hbw0 := hba.trans (hb0.mono hba.size)
       have hB0 := hB.below hb0 hB.lt))
  clear hb0 H0 hba hB
  refine wp_loop_rounds 6 ?_
  have hbv1 := hbw0.alloc hbw0.size (.cells #[.int .i64 1, .func (.func 42) #[] #[]] 64)
  have hBv1 := hB0.alloc (.cells #[.int .i64 1, .func (.func 42) #[] #[]] 64)
  have q1_0 := hBv1.cell 0
  have q1_1 := hBv1.cell 1
  have q1_2 := hBv1.cell 2
  have hr1 := Blk.new w0 64 #[.int .i64 1, .func (.func 42) #[] #[]]
  rw [rounds_succ]
  go_wp2_with (first
    | (go_at_call 42
       refine (H1.out _ hbv1).mono ?_
       rintro e w1 ⟨rfl, hb1⟩
       have hbw1 := hbv1.trans (hb1.mono hbv1.size)
       have hB1 := hBv1.below hb1 hBv1.lt
       have hs1 := hr1.below hb1 hr1.lt
       have s1 := hs1.cell 0))
  clear hbv1 hBv1 q1_0 q1_1 q1_2 hr1 hb1 hs1 s1
  have hbv2 := hbw1.alloc hbw1.size (.cells #[.int .i64 2, .func (.func 43) #[] #[]] 64)
  have hBv2 := hB1.alloc (.cells #[.int .i64 2, .func (.func 43) #[] #[]] 64)
  have q2_0 := hBv2.cell 0
  have q2_1 := hBv2.cell 1
  have q2_2 := hBv2.cell 2
  have hr2 := Blk.new w1 64 #[.int .i64 2, .func (.func 43) #[] #[]]
  rw [rounds_succ]
  go_upto_region 7 with (first
    | (go_at_call 43
       refine (H2.out _ hbv2).mono ?_
       rintro e w2 ⟨rfl, hb2⟩
       have hbw2 := hbv2.trans (hb2.mono hbv2.size)
       have hB2 := hBv2.below hb2 hBv2.lt
       have hs2 := hr2.below hb2 hr2.lt
       have s2 := hs2.cell 0))
  clear q2_0 q2_1 q2_2
  go_region_held3 (fun w' => w'.cell? ⟨w1.heap.size, 0, none⟩ = some (.int .i64 2)) (first | exact s9 | exact s2 | go_keep)
    (first
      | (go_at_call 24
         refine (HC.out _).mono ?_
         rintro e w9 ⟨rfl, hb9⟩
         have hbw9 : Below w.heap.size w w9 := (hbw2.drew).trans (hb9.mono hbw2.size)
         have s9 : w9.cell? ⟨w1.heap.size, 0, none⟩ = some (.int .i64 2) := (hb9.cell (p := ⟨w1.heap.size, 0, none⟩) hs2.lt).trans s2))
  go_wp2
  go_ret2
  exact ⟨rfl, hbw9⟩
set_option maxHeartbeats 8000000 in
set_option maxRecDepth 100000 in
theorem wrong3_any {x1 x2 x3 : ByteArray} (H1 : Hid (∀ wx : World, Below w.heap.size w wx → Calls Tryz.prog 42 #[.agg #[.pointer o, .slice A n c, .slice Al nl cl]] wx fun e w' => e = .returned (.tuple #[.string x1, .bool false]) ∧ Below wx.heap.size wx w')) (H2 : Hid (∀ wx : World, Below w.heap.size w wx → Calls Tryz.prog 43 #[.agg #[.pointer o, .slice A n c, .slice Al nl cl]] wx fun e w' => e = .returned (.tuple #[.string x2, .bool false]) ∧ Below wx.heap.size wx w')) (H3 : Hid (∀ wx : World, Below w.heap.size w wx → Calls Tryz.prog 44 #[.agg #[.pointer o, .slice A n c, .slice Al nl cl]] wx fun e w' => e = .returned (.tuple #[.string x3, .bool true]) ∧ Below wx.heap.size wx w')) (hx : x3.size ≤ 1000000000) :
    Calls Tryz.prog 11 #[.pointer o, .slice A n c, .slice Al nl cl] w fun e w' => e = .returned (.tuple #[.int .i64 3, .string x3]) ∧ Below w.heap.size w w' := by
  have hba := alloc_b w (.cells #[.pointer o, .slice A n c, .slice Al nl cl] 61)
  have hB := Blk.new w 61 #[.pointer o, .slice A n c, .slice Al nl cl]
  have H0 := hide (rules_any (w.alloc (.cells #[.pointer o, .slice A n c, .slice Al nl cl] 61)))
  have HC := hide (fun (wx : World) => Label.clone_any x3 wx hx)
  have i0 := rule_at0
  have i1 := rule_at1
  have i2 := rule_at2
  have i3 := rule_at3
  have i4 := rule_at4
  generalize rulesV = RV at *
  go_enter Tryz.func11, Tryz.ntmps11
  go_wp2_with (first
    | (go_at_call 23
       refine H0.out.mono ?_
       rintro e w0 ⟨rfl, hb0⟩
       have hbw0 := hba.trans (hb0.mono hba.size)
       have hB0 := hB.below hb0 hB.lt))
  clear hb0 H0 hba hB
  refine wp_loop_rounds 6 ?_
  have hbv1 := hbw0.alloc hbw0.size (.cells #[.int .i64 1, .func (.func 42) #[] #[]] 64)
  have hBv1 := hB0.alloc (.cells #[.int .i64 1, .func (.func 42) #[] #[]] 64)
  have q1_0 := hBv1.cell 0
  have q1_1 := hBv1.cell 1
  have q1_2 := hBv1.cell 2
  have hr1 := Blk.new w0 64 #[.int .i64 1, .func (.func 42) #[] #[]]
  rw [rounds_succ]
  go_wp2_with (first
    | (go_at_call 42
       refine (H1.out _ hbv1).mono ?_
       rintro e w1 ⟨rfl, hb1⟩
       have hbw1 := hbv1.trans (hb1.mono hbv1.size)
       have hB1 := hBv1.below hb1 hBv1.lt
       have hs1 := hr1.below hb1 hr1.lt
       have s1 := hs1.cell 0))
  clear hbv1 hBv1 q1_0 q1_1 q1_2 hr1 hb1 hs1 s1
  have hbv2 := hbw1.alloc hbw1.size (.cells #[.int .i64 2, .func (.func 43) #[] #[]] 64)
  have hBv2 := hB1.alloc (.cells #[.int .i64 2, .func (.func 43) #[] #[]] 64)
  have q2_0 := hBv2.cell 0
  have q2_1 := hBv2.cell 1
  have q2_2 := hBv2.cell 2
  have hr2 := Blk.new w1 64 #[.int .i64 2, .func (.func 43) #[] #[]]
  rw [rounds_succ]
  go_wp2_with (first
    | (go_at_call 43
       refine (H2.out _ hbv2).mono ?_
       rintro e w2 ⟨rfl, hb2⟩
       have hbw2 := hbv2.trans (hb2.mono hbv2.size)
       have hB2 := hBv2.below hb2 hBv2.lt
       have hs2 := hr2.below hb2 hr2.lt
       have s2 := hs2.cell 0))
  clear hbv2 hBv2 q2_0 q2_1 q2_2 hr2 hb2 hs2 s2
  have hbv3 := hbw2.alloc hbw2.size (.cells #[.int .i64 3, .func (.func 44) #[] #[]] 64)
  have hBv3 := hB2.alloc (.cells #[.int .i64 3, .func (.func 44) #[] #[]] 64)
  have q3_0 := hBv3.cell 0
  have q3_1 := hBv3.cell 1
  have q3_2 := hBv3.cell 2
  have hr3 := Blk.new w2 64 #[.int .i64 3, .func (.func 44) #[] #[]]
  rw [rounds_succ]
  go_upto_region 7 with (first
    | (go_at_call 44
       refine (H3.out _ hbv3).mono ?_
       rintro e w3 ⟨rfl, hb3⟩
       have hbw3 := hbv3.trans (hb3.mono hbv3.size)
       have hB3 := hBv3.below hb3 hBv3.lt
       have hs3 := hr3.below hb3 hr3.lt
       have s3 := hs3.cell 0))
  clear q3_0 q3_1 q3_2
  go_region_held3 (fun w' => w'.cell? ⟨w2.heap.size, 0, none⟩ = some (.int .i64 3)) (first | exact s9 | exact s3 | go_keep)
    (first
      | (go_at_call 24
         refine (HC.out _).mono ?_
         rintro e w9 ⟨rfl, hb9⟩
         have hbw9 : Below w.heap.size w w9 := (hbw3.drew).trans (hb9.mono hbw3.size)
         have s9 : w9.cell? ⟨w2.heap.size, 0, none⟩ = some (.int .i64 3) := (hb9.cell (p := ⟨w2.heap.size, 0, none⟩) hs3.lt).trans s3))
  go_wp2
  go_ret2
  exact ⟨rfl, hbw9⟩
set_option maxHeartbeats 8000000 in
set_option maxRecDepth 100000 in
theorem wrong4_any {x1 x2 x3 x4 : ByteArray} (H1 : Hid (∀ wx : World, Below w.heap.size w wx → Calls Tryz.prog 42 #[.agg #[.pointer o, .slice A n c, .slice Al nl cl]] wx fun e w' => e = .returned (.tuple #[.string x1, .bool false]) ∧ Below wx.heap.size wx w')) (H2 : Hid (∀ wx : World, Below w.heap.size w wx → Calls Tryz.prog 43 #[.agg #[.pointer o, .slice A n c, .slice Al nl cl]] wx fun e w' => e = .returned (.tuple #[.string x2, .bool false]) ∧ Below wx.heap.size wx w')) (H3 : Hid (∀ wx : World, Below w.heap.size w wx → Calls Tryz.prog 44 #[.agg #[.pointer o, .slice A n c, .slice Al nl cl]] wx fun e w' => e = .returned (.tuple #[.string x3, .bool false]) ∧ Below wx.heap.size wx w')) (H4 : Hid (∀ wx : World, Below w.heap.size w wx → Calls Tryz.prog 45 #[.agg #[.pointer o, .slice A n c, .slice Al nl cl]] wx fun e w' => e = .returned (.tuple #[.string x4, .bool true]) ∧ Below wx.heap.size wx w')) (hx : x4.size ≤ 1000000000) :
    Calls Tryz.prog 11 #[.pointer o, .slice A n c, .slice Al nl cl] w fun e w' => e = .returned (.tuple #[.int .i64 4, .string x4]) ∧ Below w.heap.size w w' := by
  have hba := alloc_b w (.cells #[.pointer o, .slice A n c, .slice Al nl cl] 61)
  have hB := Blk.new w 61 #[.pointer o, .slice A n c, .slice Al nl cl]
  have H0 := hide (rules_any (w.alloc (.cells #[.pointer o, .slice A n c, .slice Al nl cl] 61)))
  have HC := hide (fun (wx : World) => Label.clone_any x4 wx hx)
  have i0 := rule_at0
  have i1 := rule_at1
  have i2 := rule_at2
  have i3 := rule_at3
  have i4 := rule_at4
  generalize rulesV = RV at *
  go_enter Tryz.func11, Tryz.ntmps11
  go_wp2_with (first
    | (go_at_call 23
       refine H0.out.mono ?_
       rintro e w0 ⟨rfl, hb0⟩
       have hbw0 := hba.trans (hb0.mono hba.size)
       have hB0 := hB.below hb0 hB.lt))
  clear hb0 H0 hba hB
  refine wp_loop_rounds 6 ?_
  have hbv1 := hbw0.alloc hbw0.size (.cells #[.int .i64 1, .func (.func 42) #[] #[]] 64)
  have hBv1 := hB0.alloc (.cells #[.int .i64 1, .func (.func 42) #[] #[]] 64)
  have q1_0 := hBv1.cell 0
  have q1_1 := hBv1.cell 1
  have q1_2 := hBv1.cell 2
  have hr1 := Blk.new w0 64 #[.int .i64 1, .func (.func 42) #[] #[]]
  rw [rounds_succ]
  go_wp2_with (first
    | (go_at_call 42
       refine (H1.out _ hbv1).mono ?_
       rintro e w1 ⟨rfl, hb1⟩
       have hbw1 := hbv1.trans (hb1.mono hbv1.size)
       have hB1 := hBv1.below hb1 hBv1.lt
       have hs1 := hr1.below hb1 hr1.lt
       have s1 := hs1.cell 0))
  clear hbv1 hBv1 q1_0 q1_1 q1_2 hr1 hb1 hs1 s1
  have hbv2 := hbw1.alloc hbw1.size (.cells #[.int .i64 2, .func (.func 43) #[] #[]] 64)
  have hBv2 := hB1.alloc (.cells #[.int .i64 2, .func (.func 43) #[] #[]] 64)
  have q2_0 := hBv2.cell 0
  have q2_1 := hBv2.cell 1
  have q2_2 := hBv2.cell 2
  have hr2 := Blk.new w1 64 #[.int .i64 2, .func (.func 43) #[] #[]]
  rw [rounds_succ]
  go_wp2_with (first
    | (go_at_call 43
       refine (H2.out _ hbv2).mono ?_
       rintro e w2 ⟨rfl, hb2⟩
       have hbw2 := hbv2.trans (hb2.mono hbv2.size)
       have hB2 := hBv2.below hb2 hBv2.lt
       have hs2 := hr2.below hb2 hr2.lt
       have s2 := hs2.cell 0))
  clear hbv2 hBv2 q2_0 q2_1 q2_2 hr2 hb2 hs2 s2
  have hbv3 := hbw2.alloc hbw2.size (.cells #[.int .i64 3, .func (.func 44) #[] #[]] 64)
  have hBv3 := hB2.alloc (.cells #[.int .i64 3, .func (.func 44) #[] #[]] 64)
  have q3_0 := hBv3.cell 0
  have q3_1 := hBv3.cell 1
  have q3_2 := hBv3.cell 2
  have hr3 := Blk.new w2 64 #[.int .i64 3, .func (.func 44) #[] #[]]
  rw [rounds_succ]
  go_wp2_with (first
    | (go_at_call 44
       refine (H3.out _ hbv3).mono ?_
       rintro e w3 ⟨rfl, hb3⟩
       have hbw3 := hbv3.trans (hb3.mono hbv3.size)
       have hB3 := hBv3.below hb3 hBv3.lt
       have hs3 := hr3.below hb3 hr3.lt
       have s3 := hs3.cell 0))
  clear hbv3 hBv3 q3_0 q3_1 q3_2 hr3 hb3 hs3 s3
  have hbv4 := hbw3.alloc hbw3.size (.cells #[.int .i64 4, .func (.func 45) #[] #[]] 64)
  have hBv4 := hB3.alloc (.cells #[.int .i64 4, .func (.func 45) #[] #[]] 64)
  have q4_0 := hBv4.cell 0
  have q4_1 := hBv4.cell 1
  have q4_2 := hBv4.cell 2
  have hr4 := Blk.new w3 64 #[.int .i64 4, .func (.func 45) #[] #[]]
  rw [rounds_succ]
  go_upto_region 7 with (first
    | (go_at_call 45
       refine (H4.out _ hbv4).mono ?_
       rintro e w4 ⟨rfl, hb4⟩
       have hbw4 := hbv4.trans (hb4.mono hbv4.size)
       have hB4 := hBv4.below hb4 hBv4.lt
       have hs4 := hr4.below hb4 hr4.lt
       have s4 := hs4.cell 0))
  clear q4_0 q4_1 q4_2
  go_region_held3 (fun w' => w'.cell? ⟨w3.heap.size, 0, none⟩ = some (.int .i64 4)) (first | exact s9 | exact s4 | go_keep)
    (first
      | (go_at_call 24
         refine (HC.out _).mono ?_
         rintro e w9 ⟨rfl, hb9⟩
         have hbw9 : Below w.heap.size w w9 := (hbw4.drew).trans (hb9.mono hbw4.size)
         have s9 : w9.cell? ⟨w3.heap.size, 0, none⟩ = some (.int .i64 4) := (hb9.cell (p := ⟨w3.heap.size, 0, none⟩) hs4.lt).trans s4))
  go_wp2
  go_ret2
  exact ⟨rfl, hbw9⟩
set_option maxHeartbeats 8000000 in
set_option maxRecDepth 100000 in
theorem wrong5_any {x1 x2 x3 x4 x5 : ByteArray} (H1 : Hid (∀ wx : World, Below w.heap.size w wx → Calls Tryz.prog 42 #[.agg #[.pointer o, .slice A n c, .slice Al nl cl]] wx fun e w' => e = .returned (.tuple #[.string x1, .bool false]) ∧ Below wx.heap.size wx w')) (H2 : Hid (∀ wx : World, Below w.heap.size w wx → Calls Tryz.prog 43 #[.agg #[.pointer o, .slice A n c, .slice Al nl cl]] wx fun e w' => e = .returned (.tuple #[.string x2, .bool false]) ∧ Below wx.heap.size wx w')) (H3 : Hid (∀ wx : World, Below w.heap.size w wx → Calls Tryz.prog 44 #[.agg #[.pointer o, .slice A n c, .slice Al nl cl]] wx fun e w' => e = .returned (.tuple #[.string x3, .bool false]) ∧ Below wx.heap.size wx w')) (H4 : Hid (∀ wx : World, Below w.heap.size w wx → Calls Tryz.prog 45 #[.agg #[.pointer o, .slice A n c, .slice Al nl cl]] wx fun e w' => e = .returned (.tuple #[.string x4, .bool false]) ∧ Below wx.heap.size wx w')) (H5 : Hid (∀ wx : World, Below w.heap.size w wx → Calls Tryz.prog 46 #[.agg #[.pointer o, .slice A n c, .slice Al nl cl]] wx fun e w' => e = .returned (.tuple #[.string x5, .bool true]) ∧ Below wx.heap.size wx w')) (hx : x5.size ≤ 1000000000) :
    Calls Tryz.prog 11 #[.pointer o, .slice A n c, .slice Al nl cl] w fun e w' => e = .returned (.tuple #[.int .i64 5, .string x5]) ∧ Below w.heap.size w w' := by
  have hba := alloc_b w (.cells #[.pointer o, .slice A n c, .slice Al nl cl] 61)
  have hB := Blk.new w 61 #[.pointer o, .slice A n c, .slice Al nl cl]
  have H0 := hide (rules_any (w.alloc (.cells #[.pointer o, .slice A n c, .slice Al nl cl] 61)))
  have HC := hide (fun (wx : World) => Label.clone_any x5 wx hx)
  have i0 := rule_at0
  have i1 := rule_at1
  have i2 := rule_at2
  have i3 := rule_at3
  have i4 := rule_at4
  generalize rulesV = RV at *
  go_enter Tryz.func11, Tryz.ntmps11
  go_wp2_with (first
    | (go_at_call 23
       refine H0.out.mono ?_
       rintro e w0 ⟨rfl, hb0⟩
       have hbw0 := hba.trans (hb0.mono hba.size)
       have hB0 := hB.below hb0 hB.lt))
  clear hb0 H0 hba hB
  refine wp_loop_rounds 6 ?_
  have hbv1 := hbw0.alloc hbw0.size (.cells #[.int .i64 1, .func (.func 42) #[] #[]] 64)
  have hBv1 := hB0.alloc (.cells #[.int .i64 1, .func (.func 42) #[] #[]] 64)
  have q1_0 := hBv1.cell 0
  have q1_1 := hBv1.cell 1
  have q1_2 := hBv1.cell 2
  have hr1 := Blk.new w0 64 #[.int .i64 1, .func (.func 42) #[] #[]]
  rw [rounds_succ]
  go_wp2_with (first
    | (go_at_call 42
       refine (H1.out _ hbv1).mono ?_
       rintro e w1 ⟨rfl, hb1⟩
       have hbw1 := hbv1.trans (hb1.mono hbv1.size)
       have hB1 := hBv1.below hb1 hBv1.lt
       have hs1 := hr1.below hb1 hr1.lt
       have s1 := hs1.cell 0))
  clear hbv1 hBv1 q1_0 q1_1 q1_2 hr1 hb1 hs1 s1
  have hbv2 := hbw1.alloc hbw1.size (.cells #[.int .i64 2, .func (.func 43) #[] #[]] 64)
  have hBv2 := hB1.alloc (.cells #[.int .i64 2, .func (.func 43) #[] #[]] 64)
  have q2_0 := hBv2.cell 0
  have q2_1 := hBv2.cell 1
  have q2_2 := hBv2.cell 2
  have hr2 := Blk.new w1 64 #[.int .i64 2, .func (.func 43) #[] #[]]
  rw [rounds_succ]
  go_wp2_with (first
    | (go_at_call 43
       refine (H2.out _ hbv2).mono ?_
       rintro e w2 ⟨rfl, hb2⟩
       have hbw2 := hbv2.trans (hb2.mono hbv2.size)
       have hB2 := hBv2.below hb2 hBv2.lt
       have hs2 := hr2.below hb2 hr2.lt
       have s2 := hs2.cell 0))
  clear hbv2 hBv2 q2_0 q2_1 q2_2 hr2 hb2 hs2 s2
  have hbv3 := hbw2.alloc hbw2.size (.cells #[.int .i64 3, .func (.func 44) #[] #[]] 64)
  have hBv3 := hB2.alloc (.cells #[.int .i64 3, .func (.func 44) #[] #[]] 64)
  have q3_0 := hBv3.cell 0
  have q3_1 := hBv3.cell 1
  have q3_2 := hBv3.cell 2
  have hr3 := Blk.new w2 64 #[.int .i64 3, .func (.func 44) #[] #[]]
  rw [rounds_succ]
  go_wp2_with (first
    | (go_at_call 44
       refine (H3.out _ hbv3).mono ?_
       rintro e w3 ⟨rfl, hb3⟩
       have hbw3 := hbv3.trans (hb3.mono hbv3.size)
       have hB3 := hBv3.below hb3 hBv3.lt
       have hs3 := hr3.below hb3 hr3.lt
       have s3 := hs3.cell 0))
  clear hbv3 hBv3 q3_0 q3_1 q3_2 hr3 hb3 hs3 s3
  have hbv4 := hbw3.alloc hbw3.size (.cells #[.int .i64 4, .func (.func 45) #[] #[]] 64)
  have hBv4 := hB3.alloc (.cells #[.int .i64 4, .func (.func 45) #[] #[]] 64)
  have q4_0 := hBv4.cell 0
  have q4_1 := hBv4.cell 1
  have q4_2 := hBv4.cell 2
  have hr4 := Blk.new w3 64 #[.int .i64 4, .func (.func 45) #[] #[]]
  rw [rounds_succ]
  go_wp2_with (first
    | (go_at_call 45
       refine (H4.out _ hbv4).mono ?_
       rintro e w4 ⟨rfl, hb4⟩
       have hbw4 := hbv4.trans (hb4.mono hbv4.size)
       have hB4 := hBv4.below hb4 hBv4.lt
       have hs4 := hr4.below hb4 hr4.lt
       have s4 := hs4.cell 0))
  clear hbv4 hBv4 q4_0 q4_1 q4_2 hr4 hb4 hs4 s4
  have hbv5 := hbw4.alloc hbw4.size (.cells #[.int .i64 5, .func (.func 46) #[] #[]] 64)
  have hBv5 := hB4.alloc (.cells #[.int .i64 5, .func (.func 46) #[] #[]] 64)
  have q5_0 := hBv5.cell 0
  have q5_1 := hBv5.cell 1
  have q5_2 := hBv5.cell 2
  have hr5 := Blk.new w4 64 #[.int .i64 5, .func (.func 46) #[] #[]]
  rw [rounds_succ]
  go_upto_region 7 with (first
    | (go_at_call 46
       refine (H5.out _ hbv5).mono ?_
       rintro e w5 ⟨rfl, hb5⟩
       have hbw5 := hbv5.trans (hb5.mono hbv5.size)
       have hB5 := hBv5.below hb5 hBv5.lt
       have hs5 := hr5.below hb5 hr5.lt
       have s5 := hs5.cell 0))
  clear q5_0 q5_1 q5_2
  go_region_held3 (fun w' => w'.cell? ⟨w4.heap.size, 0, none⟩ = some (.int .i64 5)) (first | exact s9 | exact s5 | go_keep)
    (first
      | (go_at_call 24
         refine (HC.out _).mono ?_
         rintro e w9 ⟨rfl, hb9⟩
         have hbw9 : Below w.heap.size w w9 := (hbw5.drew).trans (hb9.mono hbw5.size)
         have s9 : w9.cell? ⟨w4.heap.size, 0, none⟩ = some (.int .i64 5) := (hb9.cell (p := ⟨w4.heap.size, 0, none⟩) hs5.lt).trans s5))
  go_wp2
  go_ret2
  exact ⟨rfl, hbw9⟩
set_option maxHeartbeats 8000000 in
set_option maxRecDepth 100000 in
theorem wrong6_any {x1 x2 x3 x4 x5 : ByteArray} (H1 : Hid (∀ wx : World, Below w.heap.size w wx → Calls Tryz.prog 42 #[.agg #[.pointer o, .slice A n c, .slice Al nl cl]] wx fun e w' => e = .returned (.tuple #[.string x1, .bool false]) ∧ Below wx.heap.size wx w')) (H2 : Hid (∀ wx : World, Below w.heap.size w wx → Calls Tryz.prog 43 #[.agg #[.pointer o, .slice A n c, .slice Al nl cl]] wx fun e w' => e = .returned (.tuple #[.string x2, .bool false]) ∧ Below wx.heap.size wx w')) (H3 : Hid (∀ wx : World, Below w.heap.size w wx → Calls Tryz.prog 44 #[.agg #[.pointer o, .slice A n c, .slice Al nl cl]] wx fun e w' => e = .returned (.tuple #[.string x3, .bool false]) ∧ Below wx.heap.size wx w')) (H4 : Hid (∀ wx : World, Below w.heap.size w wx → Calls Tryz.prog 45 #[.agg #[.pointer o, .slice A n c, .slice Al nl cl]] wx fun e w' => e = .returned (.tuple #[.string x4, .bool false]) ∧ Below wx.heap.size wx w')) (H5 : Hid (∀ wx : World, Below w.heap.size w wx → Calls Tryz.prog 46 #[.agg #[.pointer o, .slice A n c, .slice Al nl cl]] wx fun e w' => e = .returned (.tuple #[.string x5, .bool false]) ∧ Below wx.heap.size wx w')) :
    Calls Tryz.prog 11 #[.pointer o, .slice A n c, .slice Al nl cl] w fun e w' => e = .returned (.tuple #[.int .i64 0, .string ByteArray.empty]) ∧ Below w.heap.size w w' := by
  have hba := alloc_b w (.cells #[.pointer o, .slice A n c, .slice Al nl cl] 61)
  have hB := Blk.new w 61 #[.pointer o, .slice A n c, .slice Al nl cl]
  have H0 := hide (rules_any (w.alloc (.cells #[.pointer o, .slice A n c, .slice Al nl cl] 61)))
  have i0 := rule_at0
  have i1 := rule_at1
  have i2 := rule_at2
  have i3 := rule_at3
  have i4 := rule_at4
  generalize rulesV = RV at *
  go_enter Tryz.func11, Tryz.ntmps11
  go_wp2_with (first
    | (go_at_call 23
       refine H0.out.mono ?_
       rintro e w0 ⟨rfl, hb0⟩
       have hbw0 := hba.trans (hb0.mono hba.size)
       have hB0 := hB.below hb0 hB.lt))
  clear hb0 H0 hba hB
  refine wp_loop_rounds 6 ?_
  have hbv1 := hbw0.alloc hbw0.size (.cells #[.int .i64 1, .func (.func 42) #[] #[]] 64)
  have hBv1 := hB0.alloc (.cells #[.int .i64 1, .func (.func 42) #[] #[]] 64)
  have q1_0 := hBv1.cell 0
  have q1_1 := hBv1.cell 1
  have q1_2 := hBv1.cell 2
  have hr1 := Blk.new w0 64 #[.int .i64 1, .func (.func 42) #[] #[]]
  rw [rounds_succ]
  go_wp2_with (first
    | (go_at_call 42
       refine (H1.out _ hbv1).mono ?_
       rintro e w1 ⟨rfl, hb1⟩
       have hbw1 := hbv1.trans (hb1.mono hbv1.size)
       have hB1 := hBv1.below hb1 hBv1.lt
       have hs1 := hr1.below hb1 hr1.lt
       have s1 := hs1.cell 0))
  clear hbv1 hBv1 q1_0 q1_1 q1_2 hr1 hb1 hs1 s1
  have hbv2 := hbw1.alloc hbw1.size (.cells #[.int .i64 2, .func (.func 43) #[] #[]] 64)
  have hBv2 := hB1.alloc (.cells #[.int .i64 2, .func (.func 43) #[] #[]] 64)
  have q2_0 := hBv2.cell 0
  have q2_1 := hBv2.cell 1
  have q2_2 := hBv2.cell 2
  have hr2 := Blk.new w1 64 #[.int .i64 2, .func (.func 43) #[] #[]]
  rw [rounds_succ]
  go_wp2_with (first
    | (go_at_call 43
       refine (H2.out _ hbv2).mono ?_
       rintro e w2 ⟨rfl, hb2⟩
       have hbw2 := hbv2.trans (hb2.mono hbv2.size)
       have hB2 := hBv2.below hb2 hBv2.lt
       have hs2 := hr2.below hb2 hr2.lt
       have s2 := hs2.cell 0))
  clear hbv2 hBv2 q2_0 q2_1 q2_2 hr2 hb2 hs2 s2
  have hbv3 := hbw2.alloc hbw2.size (.cells #[.int .i64 3, .func (.func 44) #[] #[]] 64)
  have hBv3 := hB2.alloc (.cells #[.int .i64 3, .func (.func 44) #[] #[]] 64)
  have q3_0 := hBv3.cell 0
  have q3_1 := hBv3.cell 1
  have q3_2 := hBv3.cell 2
  have hr3 := Blk.new w2 64 #[.int .i64 3, .func (.func 44) #[] #[]]
  rw [rounds_succ]
  go_wp2_with (first
    | (go_at_call 44
       refine (H3.out _ hbv3).mono ?_
       rintro e w3 ⟨rfl, hb3⟩
       have hbw3 := hbv3.trans (hb3.mono hbv3.size)
       have hB3 := hBv3.below hb3 hBv3.lt
       have hs3 := hr3.below hb3 hr3.lt
       have s3 := hs3.cell 0))
  clear hbv3 hBv3 q3_0 q3_1 q3_2 hr3 hb3 hs3 s3
  have hbv4 := hbw3.alloc hbw3.size (.cells #[.int .i64 4, .func (.func 45) #[] #[]] 64)
  have hBv4 := hB3.alloc (.cells #[.int .i64 4, .func (.func 45) #[] #[]] 64)
  have q4_0 := hBv4.cell 0
  have q4_1 := hBv4.cell 1
  have q4_2 := hBv4.cell 2
  have hr4 := Blk.new w3 64 #[.int .i64 4, .func (.func 45) #[] #[]]
  rw [rounds_succ]
  go_wp2_with (first
    | (go_at_call 45
       refine (H4.out _ hbv4).mono ?_
       rintro e w4 ⟨rfl, hb4⟩
       have hbw4 := hbv4.trans (hb4.mono hbv4.size)
       have hB4 := hBv4.below hb4 hBv4.lt
       have hs4 := hr4.below hb4 hr4.lt
       have s4 := hs4.cell 0))
  clear hbv4 hBv4 q4_0 q4_1 q4_2 hr4 hb4 hs4 s4
  have hbv5 := hbw4.alloc hbw4.size (.cells #[.int .i64 5, .func (.func 46) #[] #[]] 64)
  have hBv5 := hB4.alloc (.cells #[.int .i64 5, .func (.func 46) #[] #[]] 64)
  have q5_0 := hBv5.cell 0
  have q5_1 := hBv5.cell 1
  have q5_2 := hBv5.cell 2
  have hr5 := Blk.new w4 64 #[.int .i64 5, .func (.func 46) #[] #[]]
  rw [rounds_succ]
  go_wp2_with (first
    | (go_at_call 46
       refine (H5.out _ hbv5).mono ?_
       rintro e w5 ⟨rfl, hb5⟩
       have hbw5 := hbv5.trans (hb5.mono hbv5.size)
       have hB5 := hBv5.below hb5 hBv5.lt
       have hs5 := hr5.below hb5 hr5.lt
       have s5 := hs5.cell 0))
  clear hbv5 hBv5 q5_0 q5_1 q5_2 hr5 hb5 hs5 s5
  rw [rounds_succ]
  go_wp2
  go_ret2
  exact ⟨rfl, hbw5⟩
end
end Go.Proofs.YtjbjdoioallpkaaGreatDoor.Fit
/-
  The contracts of the program's Wrong and Solution. Condition: what stands when the program is asked (AskedF).
-/
namespace Go.Proofs.YtjbjdoioallpkaaGreatDoor.Fit
open Go Go.RowKit Go.Lib Go.Proofs.YtjbjdoioallpkaaGreatDoor.Span Go.Proofs.YtjbjdoioallpkaaGreatDoor.Need Go.Proofs.YtjbjdoioallpkaaGreatDoor.Mani Go.Proofs.YtjbjdoioallpkaaGreatDoor.Wire Go.Proofs.YtjbjdoioallpkaaGreatDoor.Depot Go.Proofs.YtjbjdoioallpkaaGreatDoor.Index Go.Proofs.YtjbjdoioallpkaaGreatDoor.Reach Go.Proofs.YtjbjdoioallpkaaGreatDoor.Pick
set_option linter.unusedVariables false
set_option maxRecDepth 100000 in
theorem specWrong : SpecWrong := by
  intro X root l pv A n c Al nl cl w ha
  have hrs : ∀ q ∈ root, q.1.size ≤ 1000000000 := fun q hq => by have := ha.2.2.2.2.2.2.2.1 q hq; omega
  have hls : ∀ q ∈ l, q.1.size ≤ 1000000000 := fun q hq => by have := ha.2.2.2.2.2.2.2.2.2.2.2.1 q hq; omega
  have z1 : ByteArray.empty.size ≤ 1000000000 := Nat.zero_le _
  have z2 : (nameO (unmetN l root)).size ≤ 1000000000 := nameO_size hrs
  have z3 : (nameO (l.find? (lacksX X))).size ≤ 1000000000 := nameO_size hls
  have z4 : (nameO (l.find? (unmetX X l))).size ≤ 1000000000 := nameO_size hls
  have z5 : (nameO (l.find? (idleX X root l))).size ≤ 1000000000 := nameO_size hls
  have H1 := hide (fun (wx : World) (hb : Below w.heap.size w wx) => unfit_any c (ha.on hb))
  have H3 := hide (fun (wx : World) (hb : Below w.heap.size w wx) => unreleased_any c (ha.on hb))
  rw [wrong_is]
  cases hok : okP l with
  | false =>
    unfold RuleT at H1
    rw [hok] at H1
    obtain ⟨o, rfl⟩ := ha.1.1
    rw [if_pos (show (!false) = true from rfl)]
    exact wrong1_any H1 z1
  | true =>
    have H2 := hide (fun (wx : World) (hb : Below w.heap.size w wx) => rootUnmet_any c (ha.on hb) hok)
    have H4 := hide (fun (wx : World) (hb : Below w.heap.size w wx) => releaseUnmet_any c (ha.on hb) hok)
    have H5 := hide (fun (wx : World) (hb : Below w.heap.size w wx) => unneeded_any c (ha.on hb) hok)
    unfold RuleT at H1 H2 H3 H4 H5
    rw [hok] at H1
    obtain ⟨o, rfl⟩ := ha.1.1
    rw [if_neg (by simp)]
    cases g2 : (unmetN l root).isSome with
    | true => rw [g2] at H2; rw [if_pos rfl]; exact wrong2_any H1 H2 z2
    | false =>
      rw [g2] at H2
      rw [if_neg (by simp)]
      cases g3 : (l.find? (lacksX X)).isSome with
      | true => rw [g3] at H3; rw [if_pos rfl]; exact wrong3_any H1 H2 H3 z3
      | false =>
        rw [g3] at H3
        rw [if_neg (by simp)]
        cases g4 : (l.find? (unmetX X l)).isSome with
        | true => rw [g4] at H4; rw [if_pos rfl]; exact wrong4_any H1 H2 H3 H4 z4
        | false =>
          rw [g4] at H4
          rw [if_neg (by simp)]
          cases g5 : (l.find? (idleX X root l)).isSome with
          | true => rw [g5] at H5; rw [if_pos rfl]; exact wrong5_any H1 H2 H3 H4 H5 z5
          | false =>
            rw [g5] at H5
            rw [if_neg (by simp)]
            exact wrong6_any H1 H2 H3 H4 H5
set_option maxHeartbeats 4000000 in
set_option maxRecDepth 100000 in
theorem specSol : SpecSol := by
  intro X root l pv A n c Al nl cl w ha
  have HW := hide (specWrong X root l pv A n c Al nl cl w ha)
  have e : solX X root l = ((wrongX X root l).1 == 0) := by
    unfold solX
    rw [Bool.eq_iff_iff]
    simp
  rw [e]
  clear e ha
  generalize (wrongX X root l).2 = s at *
  generalize (wrongX X root l).1 = k at *
  go_enter Tryz.func13, Tryz.ntmps13
  go_wp2_with (first
    | (go_at_call 11
       refine HW.out.mono ?_
       rintro e w1 ⟨rfl, hb1⟩))
  go_ret
  exact ⟨rfl, hb1⟩
end Go.Proofs.YtjbjdoioallpkaaGreatDoor.Fit
