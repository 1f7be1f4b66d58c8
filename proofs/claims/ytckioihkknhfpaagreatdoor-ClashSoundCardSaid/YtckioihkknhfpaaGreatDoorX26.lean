/-
  Some texts of this claim, one behind the other: RuleShowAll. What each proves, and its condition, stands at its head.
-/
import Derived.Test.YtckioihkknhfpaaGreatDoorX25
import Derived.Test.YtckioihkknhfpaaGreatDoorX13
import Derived.Shelf.Strings.OnBuilder
/-
  The library's own Join, laid at this program; and the contracts of the program's and the document's Show. Condition: at most 1,000 spans; the tables hold what the texts lay in them.
-/
namespace Go.Proofs.YtckioihkknhfpaaGreatDoor.Rule
open Go.RowKit Go.Lib Go.Shelf Go.Proofs.YtckioihkknhfpaaGreatDoor.Span
open Go.Proofs.YtckioihkknhfpaaGreatDoor.Ver (Tabs)
set_option linter.unusedVariables false
def renJ : Ren := ⟨fun | 156 => 35 | 165 => 60 | 166 => 61 | 169 => 62 | 240 => 85 | 241 => 86 | 276 => 100 | 277 => 101 | n => n, fun | 0 => 0 | 3 => 3 | 4 => 4 | 5 => 5 | 9 => 9 | 20 => 20 | 31 => 47 | 37 => 71 | 70 => 70 | 72 => 73 | 75 => 76 | 76 => 77 | 80 => 79 | 127 => 93 | 164 => 106 | n => n, fun n => n⟩
theorem laysJ : Lays.n156 Tryz.prog renJ := {
  mixed := by kernel_rfl
  f156 := Tryz.func35.trans (congrArg some (by kernel_rfl))
  f165 := Tryz.func60.trans (congrArg some (by kernel_rfl))
  f166 := Tryz.func61.trans (congrArg some (by kernel_rfl))
  f169 := Tryz.func62.trans (congrArg some (by kernel_rfl))
  f240 := Tryz.func85.trans (congrArg some (by kernel_rfl))
  f241 := Tryz.func86.trans (congrArg some (by kernel_rfl))
  f276 := Tryz.func100.trans (congrArg some (by kernel_rfl))
  f277 := Tryz.func101.trans (congrArg some (by kernel_rfl))
  t0 := Tryz.underlying0
  a0 := Tryz.isAgg0
  z0 := Tryz.sizeOf0
  v0 := Tryz.zeroValue0
  t3 := Tryz.underlying3
  a3 := Tryz.isAgg3
  z3 := Tryz.sizeOf3
  v3 := Tryz.zeroValue3
  t4 := Tryz.underlying4
  a4 := Tryz.isAgg4
  z4 := Tryz.sizeOf4
  v4 := Tryz.zeroValue4
  t9 := Tryz.underlying9
  a9 := Tryz.isAgg9
  z9 := Tryz.sizeOf9
  v9 := Tryz.zeroValue9
  t20 := Tryz.underlying20
  a20 := Tryz.isAgg20
  z20 := Tryz.sizeOf20
  v20 := Tryz.zeroValue20
  t31 := Tryz.underlying47
  a31 := Tryz.isAgg47
  z31 := Tryz.sizeOf47
  v31 := Tryz.zeroValue47
  t37 := Tryz.underlying71
  a37 := Tryz.isAgg71
  z37 := Tryz.sizeOf71
  v37 := Tryz.zeroValue71
  t70 := Tryz.underlying70
  a70 := Tryz.isAgg70
  z70 := Tryz.sizeOf70
  v70 := Tryz.zeroValue70
  t72 := Tryz.underlying73
  a72 := Tryz.isAgg73
  z72 := Tryz.sizeOf73
  v72 := Tryz.zeroValue73
  t75 := Tryz.underlying76
  a75 := Tryz.isAgg76
  z75 := Tryz.sizeOf76
  v75 := Tryz.zeroValue76
  t76 := Tryz.underlying77
  a76 := Tryz.isAgg77
  z76 := Tryz.sizeOf77
  v76 := Tryz.zeroValue77
  t127 := Tryz.underlying93
  a127 := Tryz.isAgg93
  z127 := Tryz.sizeOf93
  v127 := Tryz.zeroValue93
  t164 := Tryz.underlying106
  a164 := Tryz.isAgg106
  z164 := Tryz.sizeOf106
  v164 := Tryz.zeroValue106 }
theorem extraJ : Builder.Extra Tryz.prog renJ := {
  sizeBuilder := by kernel_rfl
  liesBuilder := by kernel_rfl
  t5 := Tryz.underlying5
  a5 := Tryz.isAgg5
  z5 := Tryz.sizeOf5
  v5 := Tryz.zeroValue5
  infoByte := by kernel_rfl
  cellsByte := by kernel_rfl
  sizeByte := by kernel_rfl
  neB5 := by decide }
def sepL : List UInt8 := [32, 124, 32]
theorem join_eq : ∀ l : List S, joinL l = join (l.map partL) sepL
  | [] => rfl
  | [s] => by rw [List.map_cons, List.map_nil, join_one]; rfl
  | s :: t :: r => by
    have ih := join_eq (t :: r)
    have e : joinL (s :: t :: r) = partL s ++ 32 :: 124 :: 32 :: joinL (t :: r) := rfl
    rw [e, ih, List.map_cons, List.map_cons, join_cons, join_cons]
    simp [joinTail, sepL]
theorem join_any (g c : Nat) (l : List S) (w : World) (hcells : ∀ (j : Nat) s, l[j]? = some s → w.cell? ⟨g, j, none⟩ = some (.string (str (partL s)))) (hg : g < w.heap.size) (hc : l.length ≤ c) (hl : l.length ≤ 1000000) :
    Calls Tryz.prog 35 #[.slice (some ⟨g, 0, none⟩) l.length c, .string ⟨#[32, 124, 32]⟩] w fun e w' => e = .returned (.string (str (joinL l))) ∧ Below w.heap.size w w' := by
  have hd : (l.map fun s => str (partL s)).map (·.data.toList) = l.map partL := by rw [List.map_map]; rfl
  have hlen := join_len l
  have h := Any.strings_Join laysJ extraJ g 0 c (l.map fun s => str (partL s)) ⟨#[32, 124, 32]⟩ w (fun j x hx => by
      rw [List.getElem?_map, Option.map_eq_some_iff] at hx
      obtain ⟨s, hs, rfl⟩ := hx
      rw [Nat.zero_add]
      exact hcells j s hs) hg (by simp; omega) (by simpa using hc) (by rw [hd]; have := join_eq l; unfold sepL at this; show (join (l.map partL) [32, 124, 32]).length ≤ _; rw [← this]; omega)
  rw [List.length_map, hd] at h
  refine h.mono ?_
  rintro e w' ⟨rfl, hb⟩
  refine ⟨?_, hb⟩
  have := join_eq l
  unfold sepL at this
  show Ending.returned (.string (str (join (l.map partL) [32, 124, 32]))) = _
  rw [← this]
theorem join_more {l : List S} {i : Nat} {s : S} (h : l[i]? = some s) (hi : 1 ≤ i) : joinL (l.take (i + 1)) = joinL (l.take i) ++ 32 :: 124 :: 32 :: partL s := by
  rw [join_eq, join_eq]
  cases l with
  | nil => simp at h
  | cons x t =>
    obtain ⟨k, rfl⟩ : ∃ k, i = k + 1 := ⟨i - 1, by omega⟩
    rw [List.take_succ_cons, List.take_succ_cons, List.map_cons, List.map_cons, join_cons, join_cons, List.map_take, List.map_take, joinTail_take_succ sepL (t.map partL) k (partL s) (by rw [List.getElem?_map]; simp at h; rw [h]; rfl)]
    simp [sepL]
theorem info_str : (Tryz.prog.info? 9).map (fun i => (i.zero, i.size, i.bytes)) = some (some (.string ByteArray.empty), 1, 16) := by kernel_rfl
set_option maxHeartbeats 2000000 in
set_option maxRecDepth 100000 in
theorem Show_any (l : List S) (A : Option Addr) (n c : Nat) (w : World) (h : SpOn w A n l) (hn : n ≤ 1000) (hT : Tabs w) :
    Calls Tryz.prog 84 #[.slice A n c] w (Tells w (.string (str (showL l)))) := by
  unfold Tells
  obtain ⟨i0, hi0, hz0, hz1, hz2⟩ := info_parts info_str
  have hlen : l.length = n := h.1
  have HC := hide (check_on (c := c) h (by omega))
  by_cases h1 : isSet (-1) l = false
  · have e : showL l = [] := by unfold showL; rw [if_pos h1]
    rw [e]
    rw [h1] at HC
    clear h1 e
    go_enter Tryz.func84, Tryz.ntmps84
    go_wp2_with (go_at_call 56
                 refine HC.out.mono ?_
                 rintro e w1 ⟨rfl, hb1⟩)
    go_ret
    exact ⟨rfl, hb1⟩
  · have h1' : isSet (-1) l = true := by simpa using h1
    rw [h1'] at HC
    by_cases h2 : l = []
    · have e : showL l = noneL := by unfold showL; rw [if_neg h1, if_pos h2]
      rw [e]
      have hn0 : n = 0 := by rw [← hlen, h2]; rfl
      subst hn0
      clear h1 e h2 hlen
      go_enter Tryz.func84, Tryz.ntmps84
      go_wp2_with (go_at_call 56
                   refine HC.out.mono ?_
                   rintro e w1 ⟨rfl, hb1⟩)
      go_ret
      exact ⟨rfl, hb1⟩
    · have hn0 : ((n : Int) == 0) = false := beq_eq_false_iff_ne.2 fun e => h2 (List.eq_nil_of_length_eq_zero (by omega))
      have HS := hide (fun (wx : World) (A' : Option Addr) (n' c' : Nat) (hx : SpOn wx A n l) (hy : SpOn wx A' n' [((0 : Int), (1000000000 : Int))]) => same_on (c := c) (c' := c') hx hy (by omega) (by have := hy.len; simp at this; omega))
      by_cases h3 : l = [(0, 1000000000)]
      · have e : showL l = anyL := by unfold showL; rw [if_neg h1, if_neg h2, if_pos h3]
        rw [e]
        rw [decide_eq_true h3] at HS
        clear h1 e h2 hlen h3
        go_enter Tryz.func84, Tryz.ntmps84
        go_wp2_with (first
          | (go_at_call 56
             refine HC.out.mono ?_
             rintro e w1 ⟨rfl, hb1⟩
             have hx1 := h.on hb1)
          | (go_at_call 58
             refine (all_any w1).mono ?_
             rintro e w2 ⟨A2, n2, c2, rfl, hy, hb2⟩
             have hx2 := hx1.on hb2
             have hb12 := hb1.trans (hb2.mono hb1.size))
          | (go_at_call 57
             refine (HS.out _ _ _ _ hx2 hy).mono ?_
             rintro e w3 ⟨rfl, hb3⟩))
        go_ret
        exact ⟨rfl, hb12.trans (hb3.mono hb12.size)⟩
      · have e : showL l = joinL l := by unfold showL; rw [if_neg h1, if_neg h2, if_neg h3]
        rw [e]
        rw [decide_eq_false h3] at HS
        have hr := fun s (hs : s ∈ l) => mem_range h1' s hs
        clear h1 e h2 h3 h1'
        have hmk := run_make_rowN (P := Tryz.prog) 47 9 i0 _ Tryz.underlying47 hi0 hz0 .i64 .i64 n n (Nat.le_refl _) (by rw [hz2]; omega) (by omega)
        rw [hz1] at hmk
        obtain ⟨M, HM⟩ : ∃ M, Hid (M = madeCells (Value.string ByteArray.empty).cells (n * 1)) := ⟨_, hide rfl⟩
        rw [← HM.out] at hmk
        have HMs : Hid (M.size = n) := hide (by rw [HM.out]; simp [size_madeCells])
        have HT := hide hT
        clear hT
        go_enter Tryz.func84, Tryz.ntmps84
        go_wp2_with (first
          | (go_at_call 56
             refine HC.out.mono ?_
             rintro e w1 ⟨rfl, hb1⟩
             have hx1 := h.on hb1)
          | (go_at_call 58
             refine (all_any w1).mono ?_
             rintro e w2 ⟨A2, n2, c2, rfl, hy, hb2⟩
             have hx2 := hx1.on hb2
             have hb12 := hb1.trans (hb2.mono hb1.size))
          | (go_at_call 57
             refine (HS.out _ _ _ _ hx2 hy).mono ?_
             rintro e w3 ⟨rfl, hb3⟩
             have hx3 := hx2.on hb3
             have hb13 := hb12.trans (hb3.mono hb12.size)))
        have hx4 : SpIn w3 w3.heap.size A n l := hx3
        have hb14 : Below w3.heap.size w3 (w3.alloc (.cells M 9)) := alloc_b _
        have hbs3 := hb13.size
        have hM0 := Blk.new w3 9 M
        clear hx1 hx2 hx3 hb1 hb2 hb12 hb3 hy HS HC hmk
        go_loopw [23] (fun x wr => ∃ (i : Nat) (cs : Array Value), i ≤ n ∧ x = .int .i64 (i : Int) ∧ Blk wr w3.heap.size 9 cs ∧ Hid (cs.size = n) ∧ Hid (∀ (k : Nat) s, k < i → l[k]? = some s → cs[k]? = some (.string (str (partL s)))) ∧ Below w3.heap.size w3 wr) (fun x _ => n - (RowKit.intOf x).toNat)
        case atStart => exact ⟨0, M, by omega, rfl, hM0, HMs, hide (fun k s hk => absurd hk (by omega)), hb14⟩
        case round =>
          obtain ⟨i, cs, hi, rfl, hB, hcs, hall, hbq⟩ := hrel
          have hb := hb13.trans (hbq.mono hbs3)
          have hx := hx4.below hbq
          clear hM0 hx4 hb14 HMs
          by_cases hlt : i < n
          · obtain ⟨ad, s, rfl, hbl, hs, p1, p2⟩ := SpIn.at_ hx hlt
            obtain ⟨r1, r2, r3, _⟩ := hr s (List.mem_of_getElem? hs)
            have hcsi : i < cs.size := by rw [hcs.out]; exact hlt
            have Hsh := hide (fun wx (hbx : Below w.heap.size w wx) => show_any s.1 s.2 wx (by omega) r2 r3 (HT.out.below hbx))
            have hbs := hb.size
            have hglt := hB.lt
            have Hall := hide (fun (k : Nat) t (hk : k < i + 1) (ht : l[k]? = some t) => show (cs.setIfInBounds i (.string (str (partL s))))[k]? = some (.string (str (partL t))) by
              by_cases hki : k = i
              · subst hki
                rw [hs] at ht
                injection ht with ht
                subst ht
                simp [hcsi]
              · rw [Array.getElem?_setIfInBounds_ne (fun e => hki e.symm)]
                exact hall.out k t (by omega) ht)
            have hBA := hB.alloc (.cells #[.int .i64 s.1, .int .i64 s.2] 45)
            have hbA := hb.alloc hbs (.cells #[.int .i64 s.1, .int .i64 s.2] 45)
            have hbqA := hbq.alloc hbq.size (.cells #[.int .i64 s.1, .int .i64 s.2] 45)
            have hcell : ∃ v, cs[i]? = some v := ⟨_, Array.getElem?_eq_getElem hcsi⟩
            obtain ⟨v0, hv0⟩ := hcell
            have hpart : ((s.1, s.2) : S) = s := rfl
            clear hB hx hb hall hs hr
            obtain ⟨sx, sy⟩ := s
            simp only [] at p1 p2 Hsh Hall r1 r2 r3
            generalize str (partL (sx, sy)) = P at *
            go_wp2_with (go_at_call 99
                         refine (Hsh.out _ hbA).mono ?_
                         rintro e w5 ⟨rfl, hb5⟩
                         have hB5 := hBA.below hb5 (by simp; omega)
                         have hb05 := hbqA.trans (hb5.mono hbqA.size)
                         have q0 := (hB5.cell i).trans hv0
                         have f0 := hB5.frozen i)
            go_roundw
            case rel => exact ⟨i + 1, cs.setIfInBounds i (.string P), by omega, by go_num, hB5.set_ i _, hide (by simpa using hcs.out), Hall, hb05.setCell (by simp) _⟩
            case measure => simp [RowKit.intOf]; omega
          · have hin : i = n := by omega
            subst hin
            have hj := hide (join_any w3.heap.size i l wr (fun j s hs => by
              rw [hB.cell]
              exact hall.out j s (by rw [← hlen]; exact (List.getElem?_eq_some_iff.1 hs).1) hs) hB.lt (by omega) (by omega))
            rw [hlen] at hj
            clear hall hcs
            go_wp2_with (go_at_call 35
                         refine hj.out.mono ?_
                         rintro e w5 ⟨rfl, hb5⟩)
            go_ret
            exact ⟨rfl, hb.trans (hb5.mono hb.size)⟩
set_option maxHeartbeats 2000000 in
set_option maxRecDepth 100000 in
theorem refShow_any (l : List S) (A : Option Addr) (n c : Nat) (w : World) (h : SpOn w A n l) (hn : n ≤ 1000) :
    Calls Tryz.prog 63 #[.slice A n c] w (Tells w (.string (str (showL l)))) := by
  unfold Tells
  have hlen : l.length = n := h.1
  have HC := hide (refCheck_on (c := c) h (by omega))
  by_cases h1 : isSet (-1) l = false
  · have e : showL l = [] := by unfold showL; rw [if_pos h1]
    rw [e]
    rw [h1] at HC
    clear h1 e
    go_enter Tryz.func63, Tryz.ntmps63
    go_wp2_with (go_at_call 38
                 refine HC.out.mono ?_
                 rintro e w1 ⟨rfl, hb1⟩)
    go_ret
    exact ⟨rfl, hb1⟩
  · have h1' : isSet (-1) l = true := by simpa using h1
    rw [h1'] at HC
    by_cases h2 : l = []
    · have e : showL l = noneL := by unfold showL; rw [if_neg h1, if_pos h2]
      rw [e]
      have hn0 : n = 0 := by rw [← hlen, h2]; rfl
      subst hn0
      clear h1 e h2 hlen
      go_enter Tryz.func63, Tryz.ntmps63
      go_wp2_with (go_at_call 38
                   refine HC.out.mono ?_
                   rintro e w1 ⟨rfl, hb1⟩)
      go_ret
      exact ⟨rfl, hb1⟩
    · have hn0 : ((n : Int) == 0) = false := beq_eq_false_iff_ne.2 fun e => h2 (List.eq_nil_of_length_eq_zero (by omega))
      have hn1 : 1 ≤ n := by
        rcases Nat.eq_zero_or_pos n with e | e
        · exact absurd (List.eq_nil_of_length_eq_zero (by omega)) h2
        · exact e
      have HS := hide (fun (wx : World) (A' : Option Addr) (n' c' : Nat) (hx : SpOn wx A n l) (hy : SpOn wx A' n' [((0 : Int), (1000000000 : Int))]) => refSame_on (c := c) (c' := c') hx hy (by omega) (by have := hy.len; simp at this; omega))
      by_cases h3 : l = [(0, 1000000000)]
      · have e : showL l = anyL := by unfold showL; rw [if_neg h1, if_neg h2, if_pos h3]
        rw [e]
        rw [decide_eq_true h3] at HS
        clear h1 e h2 hlen h3
        go_enter Tryz.func63, Tryz.ntmps63
        go_wp2_with (first
          | (go_at_call 38
             refine HC.out.mono ?_
             rintro e w1 ⟨rfl, hb1⟩
             have hx1 := h.on hb1)
          | (go_at_call 46
             refine (refAll_any w1).mono ?_
             rintro e w2 ⟨A2, n2, c2, rfl, hy, hb2⟩
             have hx2 := hx1.on hb2
             have hb12 := hb1.trans (hb2.mono hb1.size))
          | (go_at_call 50
             refine (HS.out _ _ _ _ hx2 hy).mono ?_
             rintro e w3 ⟨rfl, hb3⟩))
        go_ret
        exact ⟨rfl, hb12.trans (hb3.mono hb12.size)⟩
      · have e : showL l = joinL l := by unfold showL; rw [if_neg h1, if_neg h2, if_neg h3]
        rw [e]
        rw [decide_eq_false h3] at HS
        have hr := hide (fun s (hs : s ∈ l) => mem_range h1' s hs)
        clear h1 e h2 h3 h1'
        have hj0 := join_len l
        go_enter Tryz.func63, Tryz.ntmps63
        go_upto_region 7 with (first
          | (go_at_call 38
             refine HC.out.mono ?_
             rintro e w1 ⟨rfl, hb1⟩
             have hx1 := h.on hb1)
          | (go_at_call 46
             refine (refAll_any w1).mono ?_
             rintro e w2 ⟨A2, n2, c2, rfl, hy, hb2⟩
             have hx2 := hx1.on hb2
             have hb12 := hb1.trans (hb2.mono hb1.size))
          | (go_at_call 50
             refine (HS.out _ _ _ _ hx2 hy).mono ?_
             rintro e w3 ⟨rfl, hb3⟩
             have hx3 := hx2.on hb3
             have hb13 := hb12.trans (hb3.mono hb12.size)))
        obtain ⟨ad, s, rfl, hbl, hs, p1, p2⟩ := SpIn.at_ hx3 (show 0 < n by omega)
        rw [Nat.zero_mul, add_zero'] at p1 p2
        obtain ⟨r1, r2, r3, _⟩ := hr.out s (List.mem_of_getElem? hs)
        have Hsh := hide (part_any s.1 s.2 w3 (by omega) r2 r3)
        have h0 : joinL (l.take 1) = partL s := by
          cases l with
          | nil => simp at hs
          | cons x t => simp at hs; subst hs; rfl
        have H0 : Hid (str (partL (s.1, s.2)) = str (joinL (l.take 1))) := hide (by rw [h0])
        clear h0 hs hx1 hx2 hb1 hb2 hb12 hb3 hy HS HC h r1 r2 r3 hbl
        obtain ⟨sx, sy⟩ := s
        simp only [] at p1 p2 Hsh H0
        go_wp2_with (go_at_call 87
                     refine Hsh.out.mono ?_
                     rintro e w4 ⟨rfl, hb4⟩
                     have hx4 := hx3.on hb4
                     have hb14 := hb13.trans (hb4.mono hb13.size))
        rw [H0.out]
        clear p1 p2 hb4 hb13 hx3 Hsh H0
        go_loopw [3, 4] (fun u x wr => ∃ (i : Nat), 1 ≤ i ∧ i ≤ n ∧ u = .string (str (joinL (l.take i))) ∧ x = .int .i64 (i : Int) ∧ SpOn wr (some ad) n l ∧ Below w.heap.size w wr) (fun _ x _ => n - (RowKit.intOf x).toNat)
        case atStart => exact ⟨1, by omega, by omega, rfl, rfl, hx4, hb14⟩
        case round =>
          obtain ⟨i, hi1, hi, rfl, rfl, hx, hb⟩ := hrel
          clear hx4 hb14
          by_cases hlt : i < n
          · obtain ⟨ad', s, hA, hbl, hs, p1, p2⟩ := SpIn.at_ hx hlt
            injection hA with hA
            subst hA
            obtain ⟨r1, r2, r3, _⟩ := hr.out s (List.mem_of_getElem? hs)
            have Hsh := hide (part_any s.1 s.2 wr (by omega) r2 r3)
            have hjm := join_more hs hi1
            have Hj : Hid (str (joinL (l.take i)) ++ (⟨#[32, 124, 32]⟩ : ByteArray) ++ str (partL (s.1, s.2)) = str (joinL (l.take (i + 1)))) := hide (by
              have a1 := str_append (joinL (l.take i)) [32, 124, 32]
              have a2 := str_append (joinL (l.take i) ++ [32, 124, 32]) (partL (s.1, s.2))
              have b1 : (⟨#[32, 124, 32]⟩ : ByteArray) = str [32, 124, 32] := rfl
              rw [b1, a1, a2, hjm]
              simp)
            have s1 : (str (joinL (l.take i))).size ≤ 30000 := by
              rw [str_size]
              have := join_len (l.take i)
              rw [List.length_take] at this
              omega
            have s2 : (str (partL (s.1, s.2))).size ≤ 26 := by rw [str_size]; exact part_len _
            clear hjm hs r1 r2 r3
            obtain ⟨sx, sy⟩ := s
            simp only [] at p1 p2 Hsh Hj s2
            generalize str (partL (sx, sy)) = P at *
            generalize str (joinL (l.take i)) = J at *
            go_wp2_with (go_at_call 87
                         refine Hsh.out.mono ?_
                         rintro e w5 ⟨rfl, hb5⟩)
            go_roundw
            case rel => exact ⟨i + 1, by omega, by omega, by rw [← Hj.out], by go_num, hx.on hb5, hb.trans (hb5.mono hb.size)⟩
            case measure => simp [RowKit.intOf]; omega
          · have hin : i = n := by omega
            subst hin
            have e : l.take i = l := List.take_of_length_le (by omega)
            rw [e]
            clear e
            go_wp2
            go_ret
            exact ⟨rfl, hb⟩
end Go.Proofs.YtckioihkknhfpaaGreatDoor.Rule
