/-
  Some texts of this claim, one behind the other: PlainCatch2, PlainSolve. What each proves, and its condition, stands at its head.
-/
import Derived.Test.YtmoeilkaadnnoaaGreatY52
import Derived.Deep.RegionHeld3
import Derived.Defers
import Derived.Recover
import Derived.Laws.Pointers
import Derived.Laws.EntriesVeiled
/-
  A panic that is caught: the contract of the search's deferred closure, where the frame below panics with a search's end. Condition: the named results lie in blocks of their own.
-/
namespace Go.Proofs.YtmoeilkaadnnoaaGreat.Plain
open Go Go.RowKit Go.Lib Go.Proofs.YtmoeilkaadnnoaaGreat.Span Go.Proofs.YtmoeilkaadnnoaaGreat.Need Go.Proofs.YtmoeilkaadnnoaaGreat.Mani Go.Proofs.YtmoeilkaadnnoaaGreat.Wire Go.Proofs.YtmoeilkaadnnoaaGreat.Depot Go.Proofs.YtmoeilkaadnnoaaGreat.Index Go.Proofs.YtmoeilkaadnnoaaGreat.Reach Go.Proofs.YtmoeilkaadnnoaaGreat.Pick Go.Proofs.YtmoeilkaadnnoaaGreat.Fit
set_option linter.unusedVariables false
set_option linter.unusedSimpArgs false
theorem farQ2 {w w' : World} {row : Option Nat} {B n c : Nat} {A : Option Addr} {l : List Pk} (h : NewP w B A n c l) (hf : FarT w 63 row) (hg : w.grownBy w' row) : NewP w' B A n c l := by
  obtain ⟨A', c', e, h'⟩ := newP_of_own (own_far h.2.2.1 hf hg)
  cases e
  exact h'
theorem assert_end1 (x : Value) (w : World) : (Instr.typeAssert (.iface 65 x) 20 65 false).run Tryz.prog w = .ok x w := by
  simp [Instr.typeAssert, run_underlying Tryz.underlying65]
set_option maxHeartbeats 1000000 in
set_option maxRecDepth 100000 in
theorem catch_end2 (A : Option Addr) (n c : Nat) (k : Int) (s : ByteArray) (g6 g7 g8 : Nat) (c6 c7 c8 : Value) (older : List PanicEntry) (w : World) (h6 : Blk w g6 27 #[c6]) (h7 : Blk w g7 3 #[c7]) (h8 : Blk w g8 9 #[c8]) (e67 : g6 ≠ g7) (e68 : g6 ≠ g8) (e78 : g7 ≠ g8) (B : Nat) (hB : B ≤ w.heap.size) (l6 : B ≤ g6) (l7 : B ≤ g7) (l8 : B ≤ g8) (hs : s.size ≤ 1000000000) :
    CallsD Tryz.prog 25 #[.pointer (some ⟨g6, 0, none⟩), .pointer (some ⟨g7, 0, none⟩), .pointer (some ⟨g8, 0, none⟩)] (.panicking ({ v := .iface 65 (.agg #[.slice A n c, .int .i64 k, .string s]), recovered := false } :: older)) w fun e u' w' =>
      e = .returned (.tuple #[]) ∧ u' = .panicking ({ v := .iface 65 (.agg #[.slice A n c, .int .i64 k, .string s]), recovered := true } :: older) ∧
      Blk w' g6 27 #[.slice A n c] ∧ Blk w' g7 3 #[.int .i64 k] ∧ Blk w' g8 9 #[.string s] ∧ Below B w w' ∧ (∀ l, NewP w 0 A n c l → NewP w' 0 A n c l) := by
  have hta := assert_end1
  refine callsD_of_wpS Tryz.func25 rfl fun c₀ cs hu => ?_
  apply wpS_seq
  apply wpS_region
  simp [wpOpsS, go_sem, recoverD, hu, hta, Tryz.ntmps25]
  show Code.wpS _ _ _ _ _ _
  simp only [List.size_toArray, List.length_cons, List.length_nil, Nat.reduceAdd, Nat.reduceSub, Array.replicate_succ, Array.replicate_zero, List.push_toArray, List.append_toArray, List.nil_append, List.cons_append, List.setIfInBounds_toArray, List.set_cons_zero, List.set_cons_succ]
  refine wpS_of_wp ?_
  have HC := hide (fun wx => Label.clone_any s wx hs)
  have b6 := h6.alloc (.cells #[.slice A n c, .int .i64 k, .string s] 65)
  have b7 := h7.alloc (.cells #[.slice A n c, .int .i64 k, .string s] 65)
  have b8 := h8.alloc (.cells #[.slice A n c, .int .i64 k, .string s] 65)
  have b5 := Blk.new w 65 #[.slice A n c, .int .i64 k, .string s]
  obtain ⟨W, hW⟩ : ∃ W, W = w.alloc (.cells #[.slice A n c, .int .i64 k, .string s] 65) := ⟨_, rfl⟩
  have hbW : Below B w W := by rw [hW]; exact (Below.refl _ _).alloc hB _
  have hN : ∀ l, NewP w 0 A n c l → NewP W 0 A n c l := fun l h => h.below (by rw [hW]; exact (Below.refl _ _).alloc (Nat.le_refl _) _)
  rw [← hW] at b5 b6 b7 b8 ⊢
  have n6 : ¬ g6 = w.heap.size := by have := h6.lt; omega
  have n7 : ¬ g7 = w.heap.size := by have := h7.lt; omega
  have n8 : ¬ g8 = w.heap.size := by have := h8.lt; omega
  have hBW : B ≤ W.heap.size := Nat.le_trans hB hbW.size
  clear hW
  generalize w.heap.size = g5 at *
  have HE := hide (fun (wx : World) (h1 : Below W.heap.size W wx) => (⟨(b5.below h1 b5.lt).cell 0, (b5.below h1 b5.lt).cell 1, (b5.below h1 b5.lt).cell 2⟩ : wx.cell? ⟨g5, 0, none⟩ = some (.slice A n c) ∧ wx.cell? ⟨g5, 1, none⟩ = some (.int .i64 k) ∧ wx.cell? ⟨g5, 2, none⟩ = some (.string s)))
  have kc := HE.out W (Below.refl _ _)
  have kcd := HE.out W.drew (Below.refl _ _).drew
  go_region_held3 (fun w' => w'.cell? ⟨g5, 0, none⟩ = some (.slice A n c) ∧ w'.cell? ⟨g5, 1, none⟩ = some (.int .i64 k) ∧ w'.cell? ⟨g5, 2, none⟩ = some (.string s)) (first | exact kc1 | exact kcd | exact kc | go_keep)
    (first
      | (go_at_call 26
         refine (HC.out _).mono ?_
         rintro e w1 ⟨rfl, hb1⟩
         have hb1k : Below W.heap.size W w1 := ((Below.refl _ W).drew).trans hb1
         have kc1 := HE.out w1 hb1k
         have d6 := b6.below hb1k b6.lt
         have d7 := b7.below hb1k b7.lt
         have d8 := b8.below hb1k b8.lt
         have a6 : w1.cell? ⟨g6, 0, none⟩ = some c6 := d6.cell 0
         have a7 : w1.cell? ⟨g7, 0, none⟩ = some c7 := d7.cell 0
         have a8 : w1.cell? ⟨g8, 0, none⟩ = some c8 := d8.cell 0
         have f6 := d6.frozen 0
         have f7 := d7.frozen 0
         have f8 := d8.frozen 0))
  have hbw1 : Below B w w1 := hbW.trans (hb1k.mono hBW)
  exact ⟨rfl, _, rfl, .tuple #[], results_none rfl _ _ _, rfl, rfl,
    (((d6.set_ 0 (.slice A n c)).far (p := ⟨g7, 0, none⟩) e67 (.int .i64 k)).far (p := ⟨g8, 0, none⟩) e68 (.string s)),
    (((d7.far (p := ⟨g6, 0, none⟩) (Ne.symm e67) (.slice A n c)).set_ 0 (.int .i64 k)).far (p := ⟨g8, 0, none⟩) e78 (.string s)),
    (((d8.far (p := ⟨g6, 0, none⟩) (Ne.symm e68) (.slice A n c)).far (p := ⟨g7, 0, none⟩) (Ne.symm e78) (.int .i64 k)).set_ 0 (.string s)),
    (((hbw1.setCell (p := ⟨g6, 0, none⟩) l6 _).setCell (p := ⟨g7, 0, none⟩) l7 _).setCell (p := ⟨g8, 0, none⟩) l8 _),
    fun l h => farQ2 (farQ2 (farQ2 ((hN l h).below hb1k) (farT_blk d6 (by decide)) (only_setCell (p := ⟨g6, 0, none⟩) (only_self w1 g6) (.inl rfl) _)) (farT_blk (d7.far (p := ⟨g6, 0, none⟩) (Ne.symm e67) (.slice A n c)) (by decide)) (only_setCell (p := ⟨g7, 0, none⟩) (only_self _ g7) (.inl rfl) (.int .i64 k))) (farT_blk ((d8.far (p := ⟨g6, 0, none⟩) (Ne.symm e68) (.slice A n c)).far (p := ⟨g7, 0, none⟩) (Ne.symm e78) (.int .i64 k)) (by decide)) (only_setCell (p := ⟨g8, 0, none⟩) (only_self _ g8) (.inl rfl) (.string s))⟩
end Go.Proofs.YtmoeilkaadnnoaaGreat.Plain
/-
  The contract of the program's Solve: its search ends by a panic, which its deferred closure catches. Condition: what is known is looked at; the fuel is at most 2000.
-/
namespace Go.Proofs.YtmoeilkaadnnoaaGreat.Plain
open Go Go.RowKit Go.Lib Go.Sort Go.Proofs.YtmoeilkaadnnoaaGreat.Span Go.Proofs.YtmoeilkaadnnoaaGreat.Need Go.Proofs.YtmoeilkaadnnoaaGreat.Mani Go.Proofs.YtmoeilkaadnnoaaGreat.Wire Go.Proofs.YtmoeilkaadnnoaaGreat.Depot Go.Proofs.YtmoeilkaadnnoaaGreat.Index Go.Proofs.YtmoeilkaadnnoaaGreat.Reach Go.Proofs.YtmoeilkaadnnoaaGreat.Pick Go.Proofs.YtmoeilkaadnnoaaGreat.Fit Go.Proofs.YtmoeilkaadnnoaaGreat.MapV
set_option linter.unusedVariables false
theorem tries_short {rec : Nat → List Pk → Plain.Told × Nat} {put : Int → List Pk} (h : ∀ (f : Nat) (l : List Pk), (nameT (rec f l).1).size ≤ 100) : ∀ (L : List Int) (f : Nat), (nameT (triesX rec put L f).1).size ≤ 100
  | [], f => Nat.zero_le _
  | v :: t, f => by
    rw [triesX]
    by_cases h0 : f = 0
    · rw [if_pos h0]; exact Nat.zero_le _
    · rw [if_neg h0]
      have h1 := h (f - 1) (put v)
      revert h1
      cases rec (f - 1) (put v) with
      | mk r f' =>
        intro h1
        cases r with
        | nothing => exact tries_short h t f'
        | found l => exact h1
        | lacks a => exact h1
        | broken a => exact h1
        | spent => exact h1
theorem on_short {X : List Kn} {root : List Nd} (hf : FineX X) (hr : ∀ q ∈ root, q.1.size ≤ 100) : ∀ (g f : Nat) (l : List Pk), (nameT (onX X root g f l).1).size ≤ 100
  | 0, f, l => Nat.zero_le _
  | g + 1, f, l => by
    cases hd : deadX X root l with
    | true => rw [on_dead hd]; exact Nat.zero_le _
    | false =>
      cases hn : nextX X root l with
      | none => rw [on_done hd hn]; exact Nat.zero_le _
      | some a =>
        cases hk : atX X a with
        | none => rw [on_new hd hn hk]; exact next_short hf hr hn
        | some k => rw [on_old hd hn hk]; exact tries_short (on_short hf hr g) _ _
theorem solve_short {X : List Kn} {root : List Nd} (hf : FineX X) (hr : ∀ q ∈ root, q.1.size ≤ 100) (f : Nat) : (nameT (solveX X root f)).size ≤ 100 := by
  unfold solveX
  cases h1 : root.find? fun q : Nd => (atX X q.1).isNone with
  | some q => exact hr q (List.mem_of_find?_eq_some h1)
  | none =>
    cases h2 : root.find? fun q : Nd => !(getX X q.1).2 with
    | some q => exact hr q (List.mem_of_find?_eq_some h2)
    | none => exact on_short hf hr _ _ _
theorem srch_made (X : List Kn) (o : Option Addr) (fuel : Int) (w0 : World) :
    Srch X w0 (w0.heap.size + 3) o 50 fuel (fun _ => []) (fun _ => none) [] [] (.slice none 0 0) ((((w0.alloc (.map #[] 0)).alloc (.map #[] 0)).alloc (.map #[] 0)).alloc (.cells #[.pointer o, .int .i64 fuel, .map (some w0.heap.size), .map (some (w0.heap.size + 1)), .slice none 0 0, .map (some (w0.heap.size + 2)), .slice none 0 0] 73)) := by
  have s1 : (w0.alloc (.map #[] 0)).heap.size = w0.heap.size + 1 := by simp
  have s2 : ((w0.alloc (.map #[] 0)).alloc (.map #[] 0)).heap.size = w0.heap.size + 2 := by simp
  have s3 : (((w0.alloc (.map #[] 0)).alloc (.map #[] 0)).alloc (.map #[] 0)).heap.size = w0.heap.size + 3 := by simp
  have m1 := OwnTold.made w0
  have m2 := OwnTold.made (w0.alloc (.map #[] 0))
  have m3 := OwnTold.made ((w0.alloc (.map #[] 0)).alloc (.map #[] 0))
  rw [s1] at m2
  rw [s2] at m3
  have n1 := ((m1.below (alloc_bw _ (.map #[] 0))).below (alloc_bw _ (.map #[] 0))).below (alloc_bw _ (.cells #[.pointer o, .int .i64 fuel, .map (some w0.heap.size), .map (some (w0.heap.size + 1)), .slice none 0 0, .map (some (w0.heap.size + 2)), .slice none 0 0] 73))
  have n2 := (m2.below (alloc_bw _ (.map #[] 0))).below (alloc_bw _ (.cells #[.pointer o, .int .i64 fuel, .map (some w0.heap.size), .map (some (w0.heap.size + 1)), .slice none 0 0, .map (some (w0.heap.size + 2)), .slice none 0 0] 73))
  have n3 := m3.below (alloc_bw _ (.cells #[.pointer o, .int .i64 fuel, .map (some w0.heap.size), .map (some (w0.heap.size + 1)), .slice none 0 0, .map (some (w0.heap.size + 2)), .slice none 0 0] 73))
  have hb := Blk.new (((w0.alloc (.map #[] 0)).alloc (.map #[] 0)).alloc (.map #[] 0)) 73 #[.pointer o, .int .i64 fuel, .map (some w0.heap.size), .map (some (w0.heap.size + 1)), .slice none 0 0, .map (some (w0.heap.size + 2)), .slice none 0 0]
  rw [s3] at hb
  refine ⟨w0.heap.size, w0.heap.size + 1, w0.heap.size + 2, _, hb, ⟨by omega, by omega, by omega, by omega, by omega, by omega, ⟨_, n1.mono (by omega), fun a v h => (by cases h)⟩, ⟨_, n2.mono (by omega), fun a _ => rfl, fun a v h => (by cases h), fun a b u v _ h => (by cases h)⟩, .inl ⟨rfl, rfl⟩, n3.mono (by omega), ⟨[], World.ownsRow_nil _ _ _ 3, rfl, fun i r q hr _ => by simp at hr⟩⟩, by omega, ?_⟩
  exact ((((Below.refl _ w0).alloc (Nat.le_refl _) _).alloc (by omega) _).alloc (by omega) _).alloc (by omega) _
set_option maxHeartbeats 4000000 in
set_option maxRecDepth 100000 in
theorem door2 (X : List Kn) (root : List Nd) (fuel : Int) (o : Option Addr) (A : Option Addr) (n c : Nat) (w : World) (ha : AskedP X root (.pointer o) A n w) (hz1 : -9223372036854775808 ≤ fuel) (hz2 : fuel ≤ 2000) :
    Calls Tryz.prog 9 #[.pointer o, .slice A n c, .int .i64 fuel] w (Solves w (solveX X root fuel.toNat)) := by
  unfold Solves
  have hmf : ∀ (fn : Fn) (first cap : Array Value) (w : World), (Instr.makeFunc fn first cap).run Tryz.prog w = .ok (.func fn first cap) w := fun _ _ _ _ => rfl
  have hmm := @run_makeMap Tryz.prog
  have hshort := solve_short ha.2.1 ha.2.2.2.2.2.2.2.2 fuel.toNat
  obtain ⟨RT, hRT⟩ : ∃ RT, RT = solveX X root fuel.toNat := ⟨_, rfl⟩
  rw [← hRT] at hshort ⊢
  obtain ⟨w3, hw3⟩ : ∃ w3, w3 = ((w.alloc (.cells #[.slice none 0 0] 27)).alloc (.cells #[.int .i64 0] 3)).alloc (.cells #[.string { data := #[] }] 9) := ⟨_, rfl⟩
  have h6 : Blk w3 w.heap.size 27 #[.slice none 0 0] := by rw [hw3]; exact ((Blk.new w _ _).alloc _).alloc _
  have h7 : Blk w3 (w.heap.size + 1) 3 #[.int .i64 0] := by
    rw [hw3]
    have := (Blk.new (w.alloc (.cells #[.slice none 0 0] 27)) 3 #[.int .i64 0]).alloc (.cells #[.string { data := #[] }] 9)
    rwa [World.size_alloc] at this
  have h8 : Blk w3 (w.heap.size + 1 + 1) 9 #[.string { data := #[] }] := by
    rw [hw3]
    have := Blk.new ((w.alloc (.cells #[.slice none 0 0] 27)).alloc (.cells #[.int .i64 0] 3)) 9 #[.string { data := #[] }]
    rwa [World.size_alloc, World.size_alloc] at this
  have hs3 : w3.heap.size = w.heap.size + 3 := by rw [hw3]; simp
  have hb3 : Below w.heap.size w w3 := by rw [hw3]; exact (((Below.refl _ _).alloc (Nat.le_refl _) _).alloc (by simp) _).alloc (by simp <;> omega) _
  have HR := hide (runS_any (cr := c) (ha.on hb3) _ _ (srch_made X o fuel w3) hz1 hz2)
  rw [← hRT] at HR
  unfold EndsP at HR
  clear ha hRT
  obtain ⟨W7, hW7⟩ : ∃ W7, W7 = (((((((w.alloc (.cells #[.slice none 0 0] 27)).alloc (.cells #[.int .i64 0] 3)).alloc (.cells #[.string { data := #[] }] 9)).alloc (.map #[] 0)).alloc (.map #[] 0)).alloc (.map #[] 0)).alloc (.cells #[.pointer o, .int .i64 fuel, .map (some (w.heap.size + 1 + 1 + 1)), .map (some (w.heap.size + 1 + 1 + 1 + 1)), .slice none 0 0, .map (some (w.heap.size + 1 + 1 + 1 + 1 + 1)), .slice none 0 0] 73)) := ⟨_, rfl⟩
  have hE : (((w3.alloc (.map #[] 0)).alloc (.map #[] 0)).alloc (.map #[] 0)).alloc (.cells #[.pointer o, .int .i64 fuel, .map (some w3.heap.size), .map (some (w3.heap.size + 1)), .slice none 0 0, .map (some (w3.heap.size + 2)), .slice none 0 0] 73) = W7 := by
    rw [hW7, hs3, hw3]
  rw [hE, hs3] at HR
  have HR : Hid (Calls Tryz.prog 27 #[.pointer (some ⟨w.heap.size + 1 + 1 + 1 + 1 + 1 + 1, 0, none⟩), .slice A n c] W7 fun e w' => ∃ A n c, e = .panicked [{ v := .iface 65 (.agg #[.slice A n c, .int .i64 (kindT RT), .string (nameT RT)]), recovered := false }] ∧ NewP w' 0 A n c (picksT RT) ∧ Below (w.heap.size + 3) w3 w') := HR
  clear hE
  go_enter_defers Tryz.func9, Tryz.ntmps9
  go_upto_region 3 with fail
  rw [← hW7]
  clear hW7 hw3
  go_wp2_with (first
    | (go_at_call 27
       refine HR.out.mono ?_
       rintro e w10 ⟨A10, n10, c10, rfl, hP10, hb10⟩))
  have hb10 : Below w3.heap.size w3 w10 := by rw [hs3]; exact hb10
  have p6 := h6.below hb10 h6.lt
  have p7 := h7.below hb10 h7.lt
  have p8 := h8.below hb10 h8.lt
  have hbw10 := hb3.trans (hb10.mono hb3.size)
  refine leaves_cons (f := 25) (args := #[.pointer (some ⟨w.heap.size, 0, none⟩), .pointer (some ⟨w.heap.size + 1, 0, none⟩), .pointer (some ⟨w.heap.size + 1 + 1, 0, none⟩)]) (by simp) (by simp [go_sem]) ?_
  refine (catch_end2 A10 n10 c10 _ _ _ _ _ _ _ _ [] _ p6 p7 p8 (by omega) (by omega) (by omega) w.heap.size hbw10.size (Nat.le_refl _) (by omega) (by omega) (by omega)).mono ?_
  rintro e u' w'' ⟨rfl, rfl, q6, q7, q8, hb11, hN⟩
  have e6 : w''.cell? ⟨w.heap.size, 0, none⟩ = some (.slice A10 n10 c10) := q6.cell 0
  have e7 : w''.cell? ⟨w.heap.size + 1, 0, none⟩ = some (.int .i64 (kindT RT)) := q7.cell 0
  have e8 : w''.cell? ⟨w.heap.size + 1 + 1, 0, none⟩ = some (.string (nameT RT)) := q8.cell 0
  refine ⟨.tuple #[.slice A10 n10 c10, .int .i64 (kindT RT), .string (nameT RT)], ?_, ?_⟩
  · simp [results, Tryz.results9, go_sem, e6, e7, e8]
  · exact ⟨A10, n10, c10, rfl, hN _ hP10, hbw10.trans hb11⟩
theorem specSolve : SpecSolve := fun X root fuel pv A n c w h h1 h2 => by
  obtain ⟨o, rfl⟩ := h.1.1
  exact door2 X root fuel o A n c w h h1 h2
end Go.Proofs.YtmoeilkaadnnoaaGreat.Plain
