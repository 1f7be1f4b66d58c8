/-
  The library's own Join, laid at this program; and the contracts of the program's and the document's Show. Condition: at most 1,000 spans; the tables hold what the texts lay in them.
-/
import Derived.Test.YtgmkagddfbfolaaDoorRuleShow
import Derived.Test.YtgmkagddfbfolaaDoorSpanOn
import Derived.Shelf.Strings.OnBuilder
namespace Go.Proofs.YtgmkagddfbfolaaDoor.Rule
open Go.RowKit Go.Lib Go.Shelf Go.Proofs.YtgmkagddfbfolaaDoor.Span
open Go.Proofs.YtgmkagddfbfolaaDoor.Ver (Tabs)
set_option linter.unusedVariables false
def renJ : Ren := ⟨fun | 156 => 67 | 165 => 77 | 166 => 78 | 169 => 79 | 240 => 85 | 241 => 86 | 276 => 89 | 277 => 90 | n => n, fun | 0 => 0 | 3 => 3 | 4 => 4 | 5 => 5 | 9 => 9 | 20 => 20 | 31 => 59 | 37 => 69 | 70 => 68 | 72 => 71 | 75 => 74 | 76 => 75 | 80 => 77 | 127 => 78 | 164 => 83 | n => n, fun n => n⟩
theorem laysJ : Lays.n156 Tryd.prog renJ := {
  mixed := by kernel_rfl
  f156 := Tryd.func67.trans (congrArg some (by kernel_rfl))
  f165 := Tryd.func77.trans (congrArg some (by kernel_rfl))
  f166 := Tryd.func78.trans (congrArg some (by kernel_rfl))
  f169 := Tryd.func79.trans (congrArg some (by kernel_rfl))
  f240 := Tryd.func85.trans (congrArg some (by kernel_rfl))
  f241 := Tryd.func86.trans (congrArg some (by kernel_rfl))
  f276 := Tryd.func89.trans (congrArg some (by kernel_rfl))
  f277 := Tryd.func90.trans (congrArg some (by kernel_rfl))
  t0 := Tryd.underlying0
  a0 := Tryd.isAgg0
  z0 := Tryd.sizeOf0
  v0 := Tryd.zeroValue0
  t3 := Tryd.underlying3
  a3 := Tryd.isAgg3
  z3 := Tryd.sizeOf3
  v3 := Tryd.zeroValue3
  t4 := Tryd.underlying4
  a4 := Tryd.isAgg4
  z4 := Tryd.sizeOf4
  v4 := Tryd.zeroValue4
  t9 := Tryd.underlying9
  a9 := Tryd.isAgg9
  z9 := Tryd.sizeOf9
  v9 := Tryd.zeroValue9
  t20 := Tryd.underlying20
  a20 := Tryd.isAgg20
  z20 := Tryd.sizeOf20
  v20 := Tryd.zeroValue20
  t31 := Tryd.underlying59
  a31 := Tryd.isAgg59
  z31 := Tryd.sizeOf59
  v31 := Tryd.zeroValue59
  t37 := Tryd.underlying69
  a37 := Tryd.isAgg69
  z37 := Tryd.sizeOf69
  v37 := Tryd.zeroValue69
  t70 := Tryd.underlying68
  a70 := Tryd.isAgg68
  z70 := Tryd.sizeOf68
  v70 := Tryd.zeroValue68
  t72 := Tryd.underlying71
  a72 := Tryd.isAgg71
  z72 := Tryd.sizeOf71
  v72 := Tryd.zeroValue71
  t75 := Tryd.underlying74
  a75 := Tryd.isAgg74
  z75 := Tryd.sizeOf74
  v75 := Tryd.zeroValue74
  t76 := Tryd.underlying75
  a76 := Tryd.isAgg75
  z76 := Tryd.sizeOf75
  v76 := Tryd.zeroValue75
  t127 := Tryd.underlying78
  a127 := Tryd.isAgg78
  z127 := Tryd.sizeOf78
  v127 := Tryd.zeroValue78
  t164 := Tryd.underlying83
  a164 := Tryd.isAgg83
  z164 := Tryd.sizeOf83
  v164 := Tryd.zeroValue83 }
theorem extraJ : Builder.Extra Tryd.prog renJ := {
  sizeBuilder := by kernel_rfl
  liesBuilder := by kernel_rfl
  t5 := Tryd.underlying5
  a5 := Tryd.isAgg5
  z5 := Tryd.sizeOf5
  v5 := Tryd.zeroValue5
  infoByte := by kernel_rfl
  cellsByte := by kernel_rfl
  sizeByte := by kernel_rfl
  neB5 := by decide }
def sepL : List UInt8 := [32, 124, 32]
theorem join_eq : ∀ l : List S, joinL l = join (l.map partL) sepL
  | [] => rfl
  | [s] => by rw [List.map_cons, List.map_nil, join_one]; rfl
  | s :: t :: r => by
    have ih := join_eq (t :: r)
    have e : joinL (s :: t :: r) = partL s ++ 32 :: 124 :: 32 :: joinL (t :: r) := rfl
    rw [e, ih, List.map_cons, List.map_cons, join_cons, join_cons]
    simp [joinTail, sepL]
theorem join_any (g c : Nat) (l : List S) (w : World) (hcells : ∀ (j : Nat) s, l[j]? = some s → w.cell? ⟨g, j, none⟩ = some (.string (str (partL s)))) (hg : g < w.heap.size) (hc : l.length ≤ c) (hl : l.length ≤ 1000000) :
    Calls Tryd.prog 67 #[.slice (some ⟨g, 0, none⟩) l.length c, .string ⟨#[32, 124, 32]⟩] w fun e w' => e = .returned (.string (str (joinL l))) ∧ Below w.heap.size w w' := by
  have hd : (l.map fun s => str (partL s)).map (·.data.toList) = l.map partL := by rw [List.map_map]; rfl
  have hlen := join_len l
  have h := Any.strings_Join laysJ extraJ g 0 c (l.map fun s => str (partL s)) ⟨#[32, 124, 32]⟩ w (fun j x hx => by
      rw [List.getElem?_map, Option.map_eq_some_iff] at hx
      obtain ⟨s, hs, rfl⟩ := hx
      rw [Nat.zero_add]
      exact hcells j s hs) hg (by simp; omega) (by simpa using hc) (by rw [hd]; have := join_eq l; unfold sepL at this; show (join (l.map partL) [32, 124, 32]).length ≤ _; rw [← this]; omega)
  rw [List.length_map, hd] at h
  refine h.mono ?_
  rintro e w' ⟨rfl, hb⟩
  refine ⟨?_, hb⟩
  have := join_eq l
  unfold sepL at this
  show Ending.returned (.string (str (join (l.map partL) [32, 124, 32]))) = _
  rw [← this]
/-- What is written of so many of them. -/
theorem join_more {l : List S} {i : Nat} {s : S} (h : l[i]? = some s) (hi : 1 ≤ i) : joinL (l.take (i + 1)) = joinL (l.take i) ++ 32 :: 124 :: 32 :: partL s := by
  rw [join_eq, join_eq]
  cases l with
  | nil => simp at h
  | cons x t =>
    obtain ⟨k, rfl⟩ : ∃ k, i = k + 1 := ⟨i - 1, by omega⟩
    rw [List.take_succ_cons, List.take_succ_cons, List.map_cons, List.map_cons, join_cons, join_cons, List.map_take, List.map_take, joinTail_take_succ sepL (t.map partL) k (partL s) (by rw [List.getElem?_map]; simp at h; rw [h]; rfl)]
    simp [sepL]
theorem info_str : (Tryd.prog.info? 9).map (fun i => (i.zero, i.size, i.bytes)) = some (some (.string ByteArray.empty), 1, 16) := by kernel_rfl
set_option maxHeartbeats 2000000 in
set_option maxRecDepth 100000 in
theorem Show_any (l : List S) (A : Option Addr) (n c : Nat) (w : World) (h : SpOn w A n l) (hn : n ≤ 1000) (hT : Tabs w) :
    Calls Tryd.prog 56 #[.slice A n c] w (Tells w (.string (str (showL l)))) := by
  unfold Tells
  obtain ⟨i0, hi0, hz0, hz1, hz2⟩ := info_parts info_str
  have hlen : l.length = n := h.1
  have HC := hide (check_on (c := c) h (by omega))
  by_cases h1 : isSet (-1) l = false
  · have e : showL l = [] := by unfold showL; rw [if_pos h1]
    rw [e]
    rw [h1] at HC
    clear h1 e
    go_enter Tryd.func56, Tryd.ntmps56
    go_wp2_with (go_at_call 28
                 refine HC.out.mono ?_
                 rintro e w1 ⟨rfl, hb1⟩)
    go_ret
    exact ⟨rfl, hb1⟩
  · have h1' : isSet (-1) l = true := by simpa using h1
    rw [h1'] at HC
    by_cases h2 : l = []
    · have e : showL l = noneL := by unfold showL; rw [if_neg h1, if_pos h2]
      rw [e]
      have hn0 : n = 0 := by rw [← hlen, h2]; rfl
      subst hn0
      clear h1 e h2 hlen
      go_enter Tryd.func56, Tryd.ntmps56
      go_wp2_with (go_at_call 28
                   refine HC.out.mono ?_
                   rintro e w1 ⟨rfl, hb1⟩)
      go_ret
      exact ⟨rfl, hb1⟩
    · have hn0 : ((n : Int) == 0) = false := beq_eq_false_iff_ne.2 fun e => h2 (List.eq_nil_of_length_eq_zero (by omega))
      have HS := hide (fun (wx : World) (A' : Option Addr) (n' c' : Nat) (hx : SpOn wx A n l) (hy : SpOn wx A' n' [((0 : Int), (1000000000 : Int))]) => same_on (c := c) (c' := c') hx hy (by omega) (by have := hy.len; simp at this; omega))
      by_cases h3 : l = [(0, 1000000000)]
      · have e : showL l = anyL := by unfold showL; rw [if_neg h1, if_neg h2, if_pos h3]
        rw [e]
        rw [decide_eq_true h3] at HS
        clear h1 e h2 hlen h3
        go_enter Tryd.func56, Tryd.ntmps56
        go_wp2_with (first
          | (go_at_call 28
             refine HC.out.mono ?_
             rintro e w1 ⟨rfl, hb1⟩
             have hx1 := h.on hb1)
          | (go_at_call 35
             refine (all_any w1).mono ?_
             rintro e w2 ⟨A2, n2, c2, rfl, hy, hb2⟩
             have hx2 := hx1.on hb2
             have hb12 := hb1.trans (hb2.mono hb1.size))
          | (go_at_call 31
             refine (HS.out _ _ _ _ hx2 hy).mono ?_
             rintro e w3 ⟨rfl, hb3⟩))
        go_ret
        exact ⟨rfl, hb12.trans (hb3.mono hb12.size)⟩
      · have e : showL l = joinL l := by unfold showL; rw [if_neg h1, if_neg h2, if_neg h3]
        rw [e]
        rw [decide_eq_false h3] at HS
        have hr := fun s (hs : s ∈ l) => mem_range h1' s hs
        clear h1 e h2 h3 h1'
        have hmk := run_make_rowN (P := Tryd.prog) 59 9 i0 _ Tryd.underlying59 hi0 hz0 .i64 .i64 n n (Nat.le_refl _) (by rw [hz2]; omega) (by omega)
        rw [hz1] at hmk
        obtain ⟨M, HM⟩ : ∃ M, Hid (M = madeCells (Value.string ByteArray.empty).cells (n * 1)) := ⟨_, hide rfl⟩
        rw [← HM.out] at hmk
        have HMs : Hid (M.size = n) := hide (by rw [HM.out]; simp [size_madeCells])
        have HT := hide hT
        clear hT
        go_enter Tryd.func56, Tryd.ntmps56
        go_wp2_with (first
          | (go_at_call 28
             refine HC.out.mono ?_
             rintro e w1 ⟨rfl, hb1⟩
             have hx1 := h.on hb1)
          | (go_at_call 35
             refine (all_any w1).mono ?_
             rintro e w2 ⟨A2, n2, c2, rfl, hy, hb2⟩
             have hx2 := hx1.on hb2
             have hb12 := hb1.trans (hb2.mono hb1.size))
          | (go_at_call 31
             refine (HS.out _ _ _ _ hx2 hy).mono ?_
             rintro e w3 ⟨rfl, hb3⟩
             have hx3 := hx2.on hb3
             have hb13 := hb12.trans (hb3.mono hb12.size)))
        have hx4 : SpIn w3 w3.heap.size A n l := hx3
        have hb14 : Below w3.heap.size w3 (w3.alloc (.cells M 9)) := alloc_b _
        have hbs3 := hb13.size
        have hM0 := Blk.new w3 9 M
        clear hx1 hx2 hx3 hb1 hb2 hb12 hb3 hy HS HC hmk
        go_loopw [23] (fun x wr => ∃ (i : Nat) (cs : Array Value), i ≤ n ∧ x = .int .i64 (i : Int) ∧ Blk wr w3.heap.size 9 cs ∧ Hid (cs.size = n) ∧ Hid (∀ (k : Nat) s, k < i → l[k]? = some s → cs[k]? = some (.string (str (partL s)))) ∧ Below w3.heap.size w3 wr) (fun x _ => n - (RowKit.intOf x).toNat)
        case atStart => exact ⟨0, M, by omega, rfl, hM0, HMs, hide (fun k s hk => absurd hk (by omega)), hb14⟩
        case round =>
          obtain ⟨i, cs, hi, rfl, hB, hcs, hall, hbq⟩ := hrel
          have hb := hb13.trans (hbq.mono hbs3)
          have hx := hx4.below hbq
          clear hM0 hx4 hb14 HMs
          by_cases hlt : i < n
          · obtain ⟨ad, s, rfl, hbl, hs, p1, p2⟩ := SpIn.at_ hx hlt
            obtain ⟨r1, r2, r3, _⟩ := hr s (List.mem_of_getElem? hs)
            have hcsi : i < cs.size := by rw [hcs.out]; exact hlt
            have Hsh := hide (fun wx (hbx : Below w.heap.size w wx) => show_any s.1 s.2 wx (by omega) r2 r3 (HT.out.below hbx))
            have hbs := hb.size
            have hglt := hB.lt
            have Hall := hide (fun (k : Nat) t (hk : k < i + 1) (ht : l[k]? = some t) => show (cs.setIfInBounds i (.string (str (partL s))))[k]? = some (.string (str (partL t))) by
              by_cases hki : k = i
              · subst hki
                rw [hs] at ht
                injection ht with ht
                subst ht
                simp [hcsi]
              · rw [Array.getElem?_setIfInBounds_ne (fun e => hki e.symm)]
                exact hall.out k t (by omega) ht)
            have hBA := hB.alloc (.cells #[.int .i64 s.1, .int .i64 s.2] 34)
            have hbA := hb.alloc hbs (.cells #[.int .i64 s.1, .int .i64 s.2] 34)
            have hbqA := hbq.alloc hbq.size (.cells #[.int .i64 s.1, .int .i64 s.2] 34)
            have hcell : ∃ v, cs[i]? = some v := ⟨_, Array.getElem?_eq_getElem hcsi⟩
            obtain ⟨v0, hv0⟩ := hcell
            have hpart : ((s.1, s.2) : S) = s := rfl
            clear hB hx hb hall hs hr
            obtain ⟨sx, sy⟩ := s
            simp only [] at p1 p2 Hsh Hall r1 r2 r3
            generalize str (partL (sx, sy)) = P at *
            go_wp2_with (go_at_call 66
                         refine (Hsh.out _ hbA).mono ?_
                         rintro e w5 ⟨rfl, hb5⟩
                         have hB5 := hBA.below hb5 (by simp; omega)
                         have hb05 := hbqA.trans (hb5.mono hbqA.size)
                         have q0 := (hB5.cell i).trans hv0
                         have f0 := hB5.frozen i)
            go_roundw
            case rel => exact ⟨i + 1, cs.setIfInBounds i (.string P), by omega, by go_num, hB5.set_ i _, hide (by simpa using hcs.out), Hall, hb05.setCell (by simp) _⟩
            case measure => simp [RowKit.intOf]; omega
          · have hin : i = n := by omega
            subst hin
            have hj := hide (join_any w3.heap.size i l wr (fun j s hs => by
              rw [hB.cell]
              exact hall.out j s (by rw [← hlen]; exact (List.getElem?_eq_some_iff.1 hs).1) hs) hB.lt (by omega) (by omega))
            rw [hlen] at hj
            clear hall hcs
            go_wp2_with (go_at_call 67
                         refine hj.out.mono ?_
                         rintro e w5 ⟨rfl, hb5⟩)
            go_ret
            exact ⟨rfl, hb.trans (hb5.mono hb.size)⟩
set_option maxHeartbeats 2000000 in
set_option maxRecDepth 100000 in
theorem refShow_any (l : List S) (A : Option Addr) (n c : Nat) (w : World) (h : SpOn w A n l) (hn : n ≤ 1000) :
    Calls Tryd.prog 34 #[.slice A n c] w (Tells w (.string (str (showL l)))) := by
  unfold Tells
  have hlen : l.length = n := h.1
  have HC := hide (refCheck_on (c := c) h (by omega))
  by_cases h1 : isSet (-1) l = false
  · have e : showL l = [] := by unfold showL; rw [if_pos h1]
    rw [e]
    rw [h1] at HC
    clear h1 e
    go_enter Tryd.func34, Tryd.ntmps34
    go_wp2_with (go_at_call 30
                 refine HC.out.mono ?_
                 rintro e w1 ⟨rfl, hb1⟩)
    go_ret
    exact ⟨rfl, hb1⟩
  · have h1' : isSet (-1) l = true := by simpa using h1
    rw [h1'] at HC
    by_cases h2 : l = []
    · have e : showL l = noneL := by unfold showL; rw [if_neg h1, if_pos h2]
      rw [e]
      have hn0 : n = 0 := by rw [← hlen, h2]; rfl
      subst hn0
      clear h1 e h2 hlen
      go_enter Tryd.func34, Tryd.ntmps34
      go_wp2_with (go_at_call 30
                   refine HC.out.mono ?_
                   rintro e w1 ⟨rfl, hb1⟩)
      go_ret
      exact ⟨rfl, hb1⟩
    · have hn0 : ((n : Int) == 0) = false := beq_eq_false_iff_ne.2 fun e => h2 (List.eq_nil_of_length_eq_zero (by omega))
      have hn1 : 1 ≤ n := by
        rcases Nat.eq_zero_or_pos n with e | e
        · exact absurd (List.eq_nil_of_length_eq_zero (by omega)) h2
        · exact e
      have HS := hide (fun (wx : World) (A' : Option Addr) (n' c' : Nat) (hx : SpOn wx A n l) (hy : SpOn wx A' n' [((0 : Int), (1000000000 : Int))]) => refSame_on (c := c) (c' := c') hx hy (by omega) (by have := hy.len; simp at this; omega))
      by_cases h3 : l = [(0, 1000000000)]
      · have e : showL l = anyL := by unfold showL; rw [if_neg h1, if_neg h2, if_pos h3]
        rw [e]
        rw [decide_eq_true h3] at HS
        clear h1 e h2 hlen h3
        go_enter Tryd.func34, Tryd.ntmps34
        go_wp2_with (first
          | (go_at_call 30
             refine HC.out.mono ?_
             rintro e w1 ⟨rfl, hb1⟩
             have hx1 := h.on hb1)
          | (go_at_call 36
             refine (refAll_any w1).mono ?_
             rintro e w2 ⟨A2, n2, c2, rfl, hy, hb2⟩
             have hx2 := hx1.on hb2
             have hb12 := hb1.trans (hb2.mono hb1.size))
          | (go_at_call 32
             refine (HS.out _ _ _ _ hx2 hy).mono ?_
             rintro e w3 ⟨rfl, hb3⟩))
        go_ret
        exact ⟨rfl, hb12.trans (hb3.mono hb12.size)⟩
      · have e : showL l = joinL l := by unfold showL; rw [if_neg h1, if_neg h2, if_neg h3]
        rw [e]
        rw [decide_eq_false h3] at HS
        have hr := hide (fun s (hs : s ∈ l) => mem_range h1' s hs)
        clear h1 e h2 h3 h1'
        have hj0 := join_len l
        go_enter Tryd.func34, Tryd.ntmps34
        go_upto_region 7 with (first
          | (go_at_call 30
             refine HC.out.mono ?_
             rintro e w1 ⟨rfl, hb1⟩
             have hx1 := h.on hb1)
          | (go_at_call 36
             refine (refAll_any w1).mono ?_
             rintro e w2 ⟨A2, n2, c2, rfl, hy, hb2⟩
             have hx2 := hx1.on hb2
             have hb12 := hb1.trans (hb2.mono hb1.size))
          | (go_at_call 32
             refine (HS.out _ _ _ _ hx2 hy).mono ?_
             rintro e w3 ⟨rfl, hb3⟩
             have hx3 := hx2.on hb3
             have hb13 := hb12.trans (hb3.mono hb12.size)))
        obtain ⟨ad, s, rfl, hbl, hs, p1, p2⟩ := SpIn.at_ hx3 (show 0 < n by omega)
        rw [Nat.zero_mul, add_zero'] at p1 p2
        obtain ⟨r1, r2, r3, _⟩ := hr.out s (List.mem_of_getElem? hs)
        have Hsh := hide (part_any s.1 s.2 w3 (by omega) r2 r3)
        have h0 : joinL (l.take 1) = partL s := by
          cases l with
          | nil => simp at hs
          | cons x t => simp at hs; subst hs; rfl
        have H0 : Hid (str (partL (s.1, s.2)) = str (joinL (l.take 1))) := hide (by rw [h0])
        clear h0 hs hx1 hx2 hb1 hb2 hb12 hb3 hy HS HC h r1 r2 r3 hbl
        obtain ⟨sx, sy⟩ := s
        simp only [] at p1 p2 Hsh H0
        go_wp2_with (go_at_call 57
                     refine Hsh.out.mono ?_
                     rintro e w4 ⟨rfl, hb4⟩
                     have hx4 := hx3.on hb4
                     have hb14 := hb13.trans (hb4.mono hb13.size))
        rw [H0.out]
        clear p1 p2 hb4 hb13 hx3 Hsh H0
        go_loopw [3, 4] (fun u x wr => ∃ (i : Nat), 1 ≤ i ∧ i ≤ n ∧ u = .string (str (joinL (l.take i))) ∧ x = .int .i64 (i : Int) ∧ SpOn wr (some ad) n l ∧ Below w.heap.size w wr) (fun _ x _ => n - (RowKit.intOf x).toNat)
        case atStart => exact ⟨1, by omega, by omega, rfl, rfl, hx4, hb14⟩
        case round =>
          obtain ⟨i, hi1, hi, rfl, rfl, hx, hb⟩ := hrel
          clear hx4 hb14
          by_cases hlt : i < n
          · obtain ⟨ad', s, hA, hbl, hs, p1, p2⟩ := SpIn.at_ hx hlt
            injection hA with hA
            subst hA
            obtain ⟨r1, r2, r3, _⟩ := hr.out s (List.mem_of_getElem? hs)
            have Hsh := hide (part_any s.1 s.2 wr (by omega) r2 r3)
            have hjm := join_more hs hi1
            have Hj : Hid (str (joinL (l.take i)) ++ (⟨#[32, 124, 32]⟩ : ByteArray) ++ str (partL (s.1, s.2)) = str (joinL (l.take (i + 1)))) := hide (by
              have a1 := str_append (joinL (l.take i)) [32, 124, 32]
              have a2 := str_append (joinL (l.take i) ++ [32, 124, 32]) (partL (s.1, s.2))
              have b1 : (⟨#[32, 124, 32]⟩ : ByteArray) = str [32, 124, 32] := rfl
              rw [b1, a1, a2, hjm]
              simp)
            have s1 : (str (joinL (l.take i))).size ≤ 30000 := by
              rw [str_size]
              have := join_len (l.take i)
              rw [List.length_take] at this
              omega
            have s2 : (str (partL (s.1, s.2))).size ≤ 26 := by rw [str_size]; exact part_len _
            clear hjm hs r1 r2 r3
            obtain ⟨sx, sy⟩ := s
            simp only [] at p1 p2 Hsh Hj s2
            generalize str (partL (sx, sy)) = P at *
            generalize str (joinL (l.take i)) = J at *
            go_wp2_with (go_at_call 57
                         refine Hsh.out.mono ?_
                         rintro e w5 ⟨rfl, hb5⟩)
            go_roundw
            case rel => exact ⟨i + 1, by omega, by omega, by rw [← Hj.out], by go_num, hx.on hb5, hb.trans (hb5.mono hb.size)⟩
            case measure => simp [RowKit.intOf]; omega
          · have hin : i = n := by omega
            subst hin
            have e : l.take i = l := List.take_of_length_le (by omega)
            rw [e]
            clear e
            go_wp2
            go_ret
            exact ⟨rfl, hb⟩
end Go.Proofs.YtgmkagddfbfolaaDoor.Rule
