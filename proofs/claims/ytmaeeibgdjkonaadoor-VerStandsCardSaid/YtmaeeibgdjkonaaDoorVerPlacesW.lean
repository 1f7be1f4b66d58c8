/-
  The walks of the laws VerPlaces and VerReads: they return true, and leave all memory that was there as it was. Condition: the tables hold what the texts lay in them.
-/
import Derived.Test.YtmaeeibgdjkonaaDoorVerAwake
namespace Go.Proofs.YtmaeeibgdjkonaaDoor.Ver
open Go.RowKit Go.Lib
set_option linter.unusedVariables false
set_option maxHeartbeats 1600000 in
set_option maxRecDepth 100000 in
theorem reads_walk (s : ByteArray) (w : World) (hs : s.size ≤ 9223372036854775807) (hT : Tabs w) :
    Calls Tryd.prog 4 #[.string s] w fun e w' => e = .returned (.bool true) ∧ Below w.heap.size w w' := by
  have H1 := hide (read_any s w hs hT)
  have H2 := hide (fun wx => refRead_any s wx)
  have HA := hide (fun wx (hb : Below w.heap.size w wx) => awake_any wx (hT.below hb))
  rw [← read_same] at H2
  cases hr : readR s with
  | none =>
    rw [hr] at H1 H2
    unfold optV at H1 H2
    simp only [Option.isSome_none] at H1 H2
    clear hr hT
    go_enter Tryd.func4, Tryd.ntmps4
    go_wp2_with (first
      | (go_at_call 15
         refine H1.out.mono ?_
         rintro e w1 ⟨rfl, hb1⟩)
      | (go_at_call 16
         refine (H2.out w1).mono ?_
         rintro e w2 ⟨rfl, hb2⟩
         have c2 : Below w.heap.size w w2 := hb1.trans (hb2.mono hb1.size))
      | (go_at_call 14
         refine (HA.out _ c2).mono ?_
         rintro e w4 ⟨rfl, hb4⟩))
    go_ret
    exact ⟨rfl, c2.trans (hb4.mono c2.size)⟩
  | some p =>
    obtain ⟨hsp, hp⟩ := read_some hr
    have H3 := hide (fun wx (hb : Below w.heap.size w wx) => text_yes p wx hp (hT.below hb))
    rw [← hsp] at H3
    rw [hr] at H1 H2
    unfold optV at H1 H2
    simp only [Option.isSome_some] at H1 H2
    clear hr hT hsp
    go_enter Tryd.func4, Tryd.ntmps4
    go_wp2_with (first
      | (go_at_call 15
         refine H1.out.mono ?_
         rintro e w1 ⟨rfl, hb1⟩)
      | (go_at_call 16
         refine (H2.out w1).mono ?_
         rintro e w2 ⟨rfl, hb2⟩
         have c2 : Below w.heap.size w w2 := hb1.trans (hb2.mono hb1.size))
      | (go_at_call 10
         refine (H3.out _ c2).mono ?_
         rintro e w3 ⟨rfl, hb3⟩
         have c3 : Below w.heap.size w w3 := c2.trans (hb3.mono c2.size))
      | (go_at_call 14
         refine (HA.out _ c3).mono ?_
         rintro e w4 ⟨rfl, hb4⟩))
    go_ret
    exact ⟨rfl, c3.trans (hb4.mono c3.size)⟩
theorem refPlace_z (x y z : Int) (w : World) :
    Calls Tryd.prog 7 #[.agg (three x y z)] w fun e w' => e = .returned (.tuple #[.int .i64 (plV x y z), .bool (decide (Fits x y z))]) ∧ Below w.heap.size w w' := refPlace_any x y z w
theorem same_self (a b c : Int) : same3 a b c a b c = true := by simp [same3]
set_option maxHeartbeats 3200000 in
set_option maxRecDepth 100000 in
theorem places_walk (x y z p k : Int) (w : World) (hT : Tabs w) :
    Calls Tryd.prog 3 #[.agg (three x y z), .int .i64 p, .int .i64 k] w fun e w' => e = .returned (.bool true) ∧ Below w.heap.size w w' := by
  have H1 := hide (fun wx (hb : Below w.heap.size w wx) => place_any x y z wx (hT.below hb))
  have H2 := hide (fun wx => refPlace_z x y z wx)
  have H3 := hide (fun wx (hb : Below w.heap.size w wx) => parts_z p wx (hT.below hb))
  have H4 := hide (fun wx => refParts_z p wx)
  have H5 := hide (fun wx (hb : Below w.heap.size w wx) => text_z p wx (hT.below hb))
  have H6 := hide (fun wx => refText_z p wx)
  have H7 := hide (fun wx (hb : Below w.heap.size w wx) => after_z p k wx (hT.below hb))
  have H8 := hide (fun wx => refAfter_z p k wx)
  have HA := hide (fun wx (hb : Below w.heap.size w wx) => awake_any wx (hT.below hb))
  have hb0 : Below w.heap.size w (w.alloc (Obj.cells #[Value.int IntKind.i64 x, Value.int IntKind.i64 y, Value.int IntKind.i64 z] 22)) := (Below.refl _ _).alloc (Nat.le_refl _) _
  have hB := Blk.new w 22 (three x y z)
  unfold three at *
  generalize plV x y z = V at *
  generalize decide (Fits x y z) = F at *
  have heq := eq_three (pzA p) (pzB p) (pzC p) (pzA p) (pzB p) (pzC p)
  rw [same_self] at heq
  generalize pzA p = A at *
  generalize pzB p = B at *
  generalize pzC p = C at *
  generalize isFit p = G at *
  generalize str (txz p) = S at *
  generalize afz p k = L at *
  clear hT
  go_enter Tryd.func3, Tryd.ntmps3
  go_wp2_with (first
    | (go_at_call 6
       refine (H1.out _ hb0).mono ?_
       rintro e w1 ⟨rfl, hb1⟩
       have c1 : Below w.heap.size w w1 := hb0.trans (hb1.mono hb0.size)
       have hB1 := hB.below hb1 (by simp)
       have d0 := hB1.cell 0
       have d1 := hB1.cell 1
       have d2 := hB1.cell 2)
    | (go_at_call 7
       refine (H2.out w1).mono ?_
       rintro e w2 ⟨rfl, hb2⟩
       have c2 : Below w.heap.size w w2 := c1.trans (hb2.mono c1.size))
    | (go_at_call 8
       refine (H3.out _ c2).mono ?_
       rintro e w3 ⟨rfl, hb3⟩
       have c3 : Below w.heap.size w w3 := c2.trans (hb3.mono c2.size)
       have c3' : Below w.heap.size w (w3.alloc (Obj.cells #[Value.int IntKind.i64 A, Value.int IntKind.i64 B, Value.int IntKind.i64 C] 22)) := c3.alloc c3.size _
       have hP := Blk.new w3 22 #[Value.int IntKind.i64 A, Value.int IntKind.i64 B, Value.int IntKind.i64 C])
    | (go_at_call 9
       refine (H4.out _).mono ?_
       rintro e w4 ⟨rfl, hb4⟩
       have c4 : Below w.heap.size w w4 := c3'.trans (hb4.mono c3'.size)
       have c4' : Below w.heap.size w (w4.alloc (Obj.cells #[Value.int IntKind.i64 A, Value.int IntKind.i64 B, Value.int IntKind.i64 C] 22)) := c4.alloc c4.size _
       have hP4 := hP.below hb4 (by simp)
       have hlt4 := hP4.lt
       have e0 := hP4.cell 0
       have e1 := hP4.cell 1
       have e2 := hP4.cell 2)
    | (go_at_call 10
       refine (H5.out _ c4').mono ?_
       rintro e w5 ⟨rfl, hb5⟩
       have c5 : Below w.heap.size w w5 := c4'.trans (hb5.mono c4'.size))
    | (go_at_call 11
       refine (H6.out _).mono ?_
       rintro e w6 ⟨rfl, hb6⟩
       have c6 : Below w.heap.size w w6 := c5.trans (hb6.mono c5.size))
    | (go_at_call 12
       refine (H7.out _ c6).mono ?_
       rintro e w7 ⟨rfl, rfl⟩)
    | (go_at_call 13
       refine (H8.out _).mono ?_
       rintro e w8 ⟨rfl, rfl⟩)
    | (go_at_call 14
       refine (HA.out _ c6).mono ?_
       rintro e w9 ⟨rfl, hb9⟩))
  go_ret
  exact ⟨rfl, c6.trans (hb9.mono c6.size)⟩
end Go.Proofs.YtmaeeibgdjkonaaDoor.Ver
