/-
  Some texts of this claim, one behind the other: ProofMark. What each proves, and its condition, stands at its head.
-/
import Derived.Test.YtdggnakjfcmnmaaZB32
import Derived.Test.YtdggnakjfcmnmaaZB28
import Derived.Test.YtdggnakjfcmnmaaZB33
import Derived.Deep.OwnRows
/-
  The contract of the program's mark: which steps of a proof its last one uses. Condition: a proof that may be.
-/
namespace Go.Proofs.Ytdggnakjfcmnmaa.Proof
open Go Go.RowKit Go.Lib
set_option linter.unusedVariables false
attribute [local go_sem] Oper.semAt_some
def MarksP (l : List Sp) (pre : List (Ip l)) (U : Nat → Bool) : Prop := OrdP l pre → markT l (l.length - pre.length) U = usedT l
theorem marks_start (l : List Sp) : MarksP l [] (fun k => decide (k = l.length - 1)) := fun _ => by rw [List.length_nil, Nat.sub_zero]; rfl
theorem marks_end {l : List Sp} {ys : List (Ip l)} {U : Nat → Bool} (h : MarksP l ys U) (ha : AllP l ys) : U = usedT l := by
  have := h ha.1
  rw [ha.2, Nat.sub_self] at this
  exact this
theorem marks_next {l : List Sp} {pre : List (Ip l)} {U : Nat → Bool} (h : MarksP l pre U) (x : Ip l) (hlt : pre.length < l.length) :
    MarksP l (pre ++ [x]) (if U x.1.1 = true ∧ x.1.2.kind = 4 then setU (setU U x.1.2.a.toNat) x.1.2.b.toNat else U) := fun ho => by
  obtain ⟨h1, h2⟩ := ord_snoc.1 ho
  have e := h h1
  obtain ⟨j, hj⟩ : ∃ j, l.length - pre.length = j + 1 := ⟨l.length - pre.length - 1, by omega⟩
  have hx : x.1.1 = j := by omega
  have hs := x.2
  rw [hx] at hs
  rw [hj, mark_next hs] at e
  rw [List.length_append, List.length_singleton, show l.length - (pre.length + 1) = j by omega, hx]
  exact e
theorem row_kept {W W' : World} {b n : Nat} {t : TypeId} {f : Nat → Value} {row : Option Nat} (h : W.rowIs b t n f) (hg : W.grownBy W' row) (hne : some b ≠ row) : W'.rowIs b t n f := h.of_block (hg.block b h.lt hne)
theorem row_far {W W' : World} {b n B : Nat} {t : TypeId} {f : Nat → Value} {row : Option Nat} (h : W.rowIs b t n f) (hg : W.grownBy W' row) (hr : ∀ r, row = some r → B ≤ r ∧ ∃ o : Obj, W.heap[r]? = some o ∧ o.isCells = false) : W'.rowIs b t n f :=
  row_kept h hg (fun e => by
    obtain ⟨c, hb, _⟩ := h
    obtain ⟨_, o, ho, hc⟩ := hr b e.symm
    rw [hb] at ho; cases ho; cases hc)
theorem blk_row {W W' : World} {b B : Nat} {t : TypeId} {cs : Array Value} {row : Option Nat} (h : Blk W b t cs) (hg : W.grownBy W' row) (hr : ∀ r, row = some r → B ≤ r ∧ ∃ o : Obj, W.heap[r]? = some o ∧ o.isCells = false) : Blk W' b t cs :=
  h.grown hg (fun e => by
    obtain ⟨_, o, ho, hc⟩ := hr b e.symm
    rw [show W.heap[b]? = _ from h] at ho; cases ho; cases hc)
set_option maxRecDepth 100000 in
set_option maxHeartbeats 4000000 in
theorem markPf_any (l : List Sp) (A : Option Addr) (n c : Nat) (w : World) (h : PfOn w A n l) (hok : OkSteps l) (h1 : 1 ≤ n) (hn : n ≤ 1048576) :
    Calls Try.prog 27 #[.slice A n c] w fun e w' => e = .returned (.slice (some ⟨w.heap.size, 0, none⟩) n n) ∧ w'.rowIs w.heap.size 4 n (fun j => .bool (usedT l j)) ∧ Below w.heap.size w w' := by
  have hlen := h.len
  have hmk1 := run_make_row' (P := Try.prog) 44 4 (.bool false) 1 Try.underlying44 (by kernel_rfl) rfl .i64 .i64 n (by omega) (by omega)
  have hbk := hide (fun wx => backP_any A n c wx)
  obtain ⟨m, hm⟩ : ∃ m, n = m + 1 := ⟨n - 1, by omega⟩
  have hw0 : IntKind.i64.wrap ((n : Int) - 1) = (m : Int) := by rw [IntKind.wrap_i64]; omega
  have i1 : (0 : Int) ≤ (m : Int) := by omega
  have i2 : (m : Int) < (n : Int) := by omega
  obtain ⟨cs, hcs⟩ : ∃ cs, cs = (madeCells #[.bool false] n).setIfInBounds m (.bool true) := ⟨_, rfl⟩
  have hsz : cs.size = n := by rw [hcs, Array.size_setIfInBounds]; simp [size_madeCells]
  have hcell : ∀ i, i < cs.size → cs[i]? = some (Value.bool (decide (i = n - 1))) := fun i hi => by
    rw [hcs, Array.getElem?_setIfInBounds]
    have hmz : (madeCells #[Value.bool false] n).size = n := by simp [size_madeCells]
    by_cases e : m = i
    · rw [if_pos e, if_pos (by omega)]; congr 2; symm; exact decide_eq_true (by omega)
    · rw [if_neg e]
      have : (madeCells #[Value.bool false] n)[i]? = some (Value.bool false) := by
        have hi2 : i < n := by omega
        simp [madeCells, hi2, Nat.mod_one]
      rw [this]; congr 2; symm; exact decide_eq_false (by omega)
  have hrow1 : ((w.alloc (.cells cs 4)).alloc (.cells #[.slice (some ⟨w.heap.size, 0, none⟩) n n] 44)).rowIs w.heap.size 4 n (fun j => .bool (decide (j = n - 1))) := by
    have := World.rowIs_alloc w cs 4 _ hcell
    rw [hsz] at this
    exact this.alloc _
  have bx1 : Boxed ((w.alloc (.cells cs 4)).alloc (.cells #[.slice (some ⟨w.heap.size, 0, none⟩) n n] 44)) (w.heap.size + 1) 44 (.slice (some ⟨w.heap.size, 0, none⟩) n n) := by
    have := Boxed.new (w.alloc (.cells cs 4)) 44 (.slice (some ⟨w.heap.size, 0, none⟩) n n)
    rwa [World.size_alloc] at this
  have hb1 : Below w.heap.size w ((w.alloc (.cells cs 4)).alloc (.cells #[.slice (some ⟨w.heap.size, 0, none⟩) n n] 44)) := ((Below.refl _ _).alloc (Nat.le_refl _) _).alloc (by simp) _
  have hs1 : ((w.alloc (.cells cs 4)).alloc (.cells #[.slice (some ⟨w.heap.size, 0, none⟩) n n] 44)).heap.size = w.heap.size + 2 := by simp
  have hmz : m < (madeCells #[Value.bool false] n).size := by simp [size_madeCells]; omega
  have Hm := hide hm
  clear hm
  refine (callsIn_wide (n := 9)).1 ?_
  refine callsIn_of_wp_marks Try.func27 rfl trivial ?_ rfl
  simp only [Try.ntmps27, List.size_toArray, List.length_cons, List.length_nil, Nat.reduceAdd, Nat.reduceSub, Array.replicate_succ, Array.replicate_zero, List.push_toArray, List.append_toArray, List.nil_append, List.cons_append]
  gi_wp2_with (refine ⟨trivial, ?_⟩; gi_at_call 46; refine (callsIn_wide.2 (hbk.out _)).mono ?_; rintro e w2 ⟨rfl, rfl⟩)
  rw [← hcs]
  generalize (w.alloc (.cells cs 4)).alloc (.cells #[.slice (some ⟨w.heap.size, 0, none⟩) n n] 44) = W1 at *
  obtain ⟨W0, hW0⟩ : ∃ W0, W0 = W1.alloc (.cells #[.slice A n c] 22) := ⟨_, rfl⟩
  have hsz0 : W0.heap.size = w.heap.size + 3 := by rw [hW0, World.size_alloc, hs1]
  have hB0 : Below w.heap.size w W0 := by rw [hW0]; exact hb1.alloc hb1.size _
  have hrow0 : W0.rowIs w.heap.size 4 n (fun j => .bool (decide (j = n - 1))) := by rw [hW0]; exact hrow1.alloc _
  have b1 : Boxed W0 (w.heap.size + 1) 44 (.slice (some ⟨w.heap.size, 0, none⟩) n n) := by rw [hW0]; exact bx1.alloc _
  have b3 : Boxed W0 (w.heap.size + 2) 22 (.slice A n c) := by
    rw [hW0]
    have := Boxed.new W1 22 (.slice A n c)
    rwa [hs1] at this
  rw [← hW0]
  clear hW0 hbk hrow1 bx1 hb1 hs1 hmk1 hw0 i1 i2 hmz hcell hcs hsz
  obtain ⟨H, hH⟩ : ∃ H, H = w.heap.size := ⟨_, rfl⟩
  refine wpIn_rangeFunc_ownH rfl (by omega) (gf := 61) (lb := #[.pointer (some ⟨w.heap.size + 2, 0, none⟩)]) rfl trivial (enters_of Try.func61 (by kernel_rfl) rfl)
    (backP_stops l A n c w.heap.size (w.heap.size + 2) _ (by omega) (by omega) W0 (PfIn.below h hB0) hB0.size b3) kpP_t (kpP_b hB0.size (by omega)) (Below.refl _ _) (fun _ => rfl)
    (fun pre W => ∃ U : Nat → Bool, W.rowIs w.heap.size 4 n (fun j => .bool (U j)) ∧ Boxed W (w.heap.size + 1) 44 (.slice (some ⟨w.heap.size, 0, none⟩) n n) ∧ MarksP l pre U ∧ Below w.heap.size w W)
    (fun c pre W => False)
    (fun pre X Y row ⟨U, g1, g2, g3, hB⟩ hg hr => ⟨U, row_far g1 hg hr, g2.kept hg (fun e => by have := (hr _ e.symm).1; omega), g3, hB.grown hg hB.size (fun r e => by have := (hr r e).1; omega)⟩)
    (fun c pre X Y row hF _ _ => hF)
    ⟨_, hrow0, b1, by rw [← hlen]; exact marks_start l, hB0⟩
    (fun x a' W => ∃ Bx, Blk W Bx 40 #[.int .i64 x.1.2.kind, .string x.1.2.name, .int .i64 x.1.2.ver, .string x.1.2.dest, .int .i64 x.1.2.a, .int .i64 x.1.2.b] ∧ w.heap.size + 1 < Bx ∧ a' = { tmps := #[.slice A n c, undef, .slice none 0 0, .pointer (some ⟨w.heap.size + 1, 0, none⟩), .int .i64 (x.1.1 : Int), .pointer (some ⟨Bx, 0, none⟩), .slice A n c, .int .i64 (n : Int), .slice (some ⟨w.heap.size, 0, none⟩) n n, .slice (some ⟨w.heap.size, 0, none⟩) n n, .slice A n c, .int .i64 (n : Int), .int .i64 (m : Int), .pointer (some ⟨w.heap.size, m, none⟩), .slice A n c, .func (.func 61) #[] #[.pointer (some ⟨w.heap.size + 2, 0, none⟩)], .int .i64 (x.1.1 : Int), .agg #[.int .i64 x.1.2.kind, .string x.1.2.name, .int .i64 x.1.2.ver, .string x.1.2.dest, .int .i64 x.1.2.a, .int .i64 x.1.2.b], undef, undef, undef, undef, undef, undef, undef, undef, undef, undef, undef, undef, undef, undef, undef, undef, undef, undef], defers := [] })
    (fun x a' _ X Y row ⟨Bx, g2, g4, g3⟩ hg hr => ⟨Bx, blk_row g2 hg hr, g4, g3⟩)
    ?assign ?body ?done ?stop
  case assign =>
    rintro lx pre x W K ⟨U, g1, g2, g3, hB⟩ hK
    unfold encPf
    gi_wp2
    exact hK _ _ ((KeepsOthers.alloc _ _).from _) ⟨(Below.refl _ W).alloc hB.size _, fun u hu => hu.alloc _⟩ ⟨U, g1.alloc _, g2.alloc _, g3, hB.alloc hB.size _⟩ ⟨W.heap.size, Blk.new _ _ _, g2.lt, rfl⟩
  case body =>
    rintro lx pre x a' W hlx ⟨r, hr⟩ ⟨U, g1, g2, g3, hB⟩ ⟨Bx, hk, hBx, rfl⟩ hlt
    have Hnx := hide (marks_next g3 x (by omega))
    obtain ⟨P, hP⟩ : ∃ P, P = pre ++ [x] := ⟨_, rfl⟩
    rw [← hP] at Hnx ⊢
    clear hP
    obtain ⟨⟨i, q⟩, hx⟩ := x
    simp only [] at hk Hnx hx ⊢
    have hi : i < n := by have := (List.getElem?_eq_some_iff.1 hx).1; omega
    have Hj := hide (fun hk4 => may_joined (hok i q hx) hk4)
    obtain ⟨kd, nm, v, d, a, b⟩ := q
    simp only [] at hk Hnx Hj ⊢
    have xb := g2.cell
    have xr := g1.cell hi
    have k0 := (hk.cell 0).trans (show (#[Value.int .i64 kd, .string nm, .int .i64 v, .string d, .int .i64 a, .int .i64 b] : Array Value)[0]? = some (.int .i64 kd) from rfl)
    have hWs := hB.size
    have hltb := g2.lt
    have hltk := hk.lt
    have i1 : (0 : Int) ≤ (i : Int) := by omega
    have i2 : (i : Int) < (n : Int) := by omega
    clear hx
    cases hu : U i with
    | false =>
      rw [hu] at xr Hnx
      clear hu
      simp only [Bool.false_eq_true, false_and, if_false] at Hnx
      gi_wp2
      exact ⟨(KeepsOthers.refl _).from _, ⟨Below.refl _ _, fun u hu => hu⟩, ⟨U, g1, g2, Hnx.out, hB⟩⟩
    | true =>
      rw [hu] at xr Hnx
      clear hu
      by_cases hk4 : kd = 4
      · obtain ⟨q1, q2, q3, q4⟩ := Hj.out hk4
        obtain ⟨a', rfl⟩ : ∃ a' : Nat, a = (a' : Int) := ⟨a.toNat, by omega⟩
        obtain ⟨b', rfl⟩ : ∃ b' : Nat, b = (b' : Int) := ⟨b.toNat, by omega⟩
        simp only [hk4, and_self, if_true, Int.toNat_natCast] at Hnx
        have hk41 : (kd == 4) = true := beq_iff_eq.2 hk4
        have ja : (a' : Int) < (n : Int) := by omega
        have jb : (b' : Int) < (n : Int) := by omega
        have k4 := (hk.cell 4).trans (show (#[Value.int .i64 kd, .string nm, .int .i64 v, .string d, .int .i64 (a' : Int), .int .i64 (b' : Int)] : Array Value)[4]? = some (.int .i64 (a' : Int)) from rfl)
        have k5 := (hk.cell 5).trans (show (#[Value.int .i64 kd, .string nm, .int .i64 v, .string d, .int .i64 (a' : Int), .int .i64 (b' : Int)] : Array Value)[5]? = some (.int .i64 (b' : Int)) from rfl)
        clear k4 k5
        obtain ⟨Wd, hWd⟩ : ∃ Wd, Wd = W.drew := ⟨_, rfl⟩
        have g10 : Wd.rowIs w.heap.size 4 n (fun j => .bool (U j)) := by rw [hWd]; exact g1
        have g20 : Boxed Wd (w.heap.size + 1) 44 (.slice (some ⟨w.heap.size, 0, none⟩) n n) := by rw [hWd]; exact g2
        have hk0 : Blk Wd Bx 40 #[.int .i64 kd, .string nm, .int .i64 v, .string d, .int .i64 (a' : Int), .int .i64 (b' : Int)] := by rw [hWd]; exact hk
        have hB0' : Below w.heap.size w Wd := by rw [hWd]; exact hB.drew
        have hWW : Below w.heap.size W Wd := by rw [hWd]; exact (Below.refl _ _).drew
        have hKo : KeepsOthers W Wd := by rw [hWd]; exact KeepsOthers.drew W
        have hKb : ∀ u, Boxed W (w.heap.size + 2) 22 u → Boxed Wd (w.heap.size + 2) 22 u := fun u hu => by rw [hWd]; exact hu
        have ha1 := g10.cell (i := a') (by omega)
        have fa1 := g10.frozen a'
        have g11 := g10.set a' (.bool true)
        have hg1 := set_only_ Wd w.heap.size a' (.bool true)
        have g21 := g20.kept hg1 (fun e => by injection e with e; omega)
        have hk1 := hk0.grown hg1 (fun e => by injection e with e; omega)
        have hb1 := g11.cell (i := b') (by omega)
        have fb1 := g11.frozen b'
        have g12 := (g11.set b' (.bool true)).congr (fun j hj => set_two U a' b' j)
        have hg2 := set_only_ (Wd.setCell ⟨w.heap.size, a', none⟩ (.bool true)) w.heap.size b' (.bool true)
        have g22 := g21.kept hg2 (fun e => by injection e with e; omega)
        have hk2 := hk1.grown hg2 (fun e => by injection e with e; omega)
        have xb0 := g20.cell
        have k40 := (hk0.cell 4).trans (show (#[Value.int .i64 kd, .string nm, .int .i64 v, .string d, .int .i64 (a' : Int), .int .i64 (b' : Int)] : Array Value)[4]? = some (.int .i64 (a' : Int)) from rfl)
        have k50 := (hk0.cell 5).trans (show (#[Value.int .i64 kd, .string nm, .int .i64 v, .string d, .int .i64 (a' : Int), .int .i64 (b' : Int)] : Array Value)[5]? = some (.int .i64 (b' : Int)) from rfl)
        have xb1 := g21.cell
        have k41 := (hk1.cell 4).trans (show (#[Value.int .i64 kd, .string nm, .int .i64 v, .string d, .int .i64 (a' : Int), .int .i64 (b' : Int)] : Array Value)[4]? = some (.int .i64 (a' : Int)) from rfl)
        have k51 := (hk1.cell 5).trans (show (#[Value.int .i64 kd, .string nm, .int .i64 v, .string d, .int .i64 (a' : Int), .int .i64 (b' : Int)] : Array Value)[5]? = some (.int .i64 (b' : Int)) from rfl)
        have xb2 := g22.cell
        have k42 := (hk2.cell 4).trans (show (#[Value.int .i64 kd, .string nm, .int .i64 v, .string d, .int .i64 (a' : Int), .int .i64 (b' : Int)] : Array Value)[4]? = some (.int .i64 (a' : Int)) from rfl)
        have k52 := (hk2.cell 5).trans (show (#[Value.int .i64 kd, .string nm, .int .i64 v, .string d, .int .i64 (a' : Int), .int .i64 (b' : Int)] : Array Value)[5]? = some (.int .i64 (b' : Int)) from rfl)
        have hBz := hide ((hB0'.setCell (p := ⟨w.heap.size, a', none⟩) (Nat.le_refl _) (.bool true)).setCell (p := ⟨w.heap.size, b', none⟩) (Nat.le_refl _) (.bool true))
        have hBy := hide ((hWW.setCell (p := ⟨w.heap.size, a', none⟩) (Nat.le_refl _) (.bool true)).setCell (p := ⟨w.heap.size, b', none⟩) (Nat.le_refl _) (.bool true))
        have Hbk := hide (fun (u : Value) (hu : Boxed W (w.heap.size + 2) 22 u) => ((hKb u hu).kept hg1 (fun e => by injection e with e; omega)).kept hg2 (fun e => by injection e with e; omega))
        have Hke := hide (((hKo.from W0.heap.size).trans ((KeepsOthers.setCell Wd ⟨w.heap.size, a', none⟩ (.bool true)).from W0.heap.size)).trans ((KeepsOthers.setCell (Wd.setCell ⟨w.heap.size, a', none⟩ (.bool true)) ⟨w.heap.size, b', none⟩ (.bool true)).from W0.heap.size))
        clear hk4 Hj q1 q2 q3 q4 hKb hKo hWW hB0' g1 g2 hk g3 hB hg1 hg2
        gi_wp2
        refine Grow.T.wpIn_region_two 7 9 (Wd.setCell ⟨w.heap.size, a', none⟩ (.bool true)) ((Wd.setCell ⟨w.heap.size, a', none⟩ (.bool true)).setCell ⟨w.heap.size, b', none⟩ (.bool true)) (by kernel_rfl) (fun _ => trivial) (by kernel_rfl) ?_
        rw [← hWd]
        clear hWd
        refine Grow.T.runs_read (by decide) (by decide) (.slice (some ⟨w.heap.size, 0, none⟩) n n) (.inl ?_) (.inl ?_) (.inl ?_) ?_
        · go_simp
        · go_simp
        · go_simp
        simp only [Act.put, List.setIfInBounds_toArray, List.set_cons_zero, List.set_cons_succ]
        refine Grow.T.runs_read (by decide) (by decide) (.pointer (some ⟨Bx, 4, none⟩)) (.inl ?_) (.inl ?_) (.inl ?_) ?_
        · go_simp
        · go_simp
        · go_simp
        simp only [Act.put, List.setIfInBounds_toArray, List.set_cons_zero, List.set_cons_succ]
        refine Grow.T.runs_read (by decide) (by decide) (.int .i64 (a' : Int)) (.inl ?_) (.inl ?_) (.inl ?_) ?_
        · go_simp
        · go_simp
        · go_simp
        simp only [Act.put, List.setIfInBounds_toArray, List.set_cons_zero, List.set_cons_succ]
        refine Grow.T.runs_read (by decide) (by decide) (.slice (some ⟨w.heap.size, 0, none⟩) n n) (.inl ?_) (.inl ?_) (.inl ?_) ?_
        · go_simp
        · go_simp
        · go_simp
        simp only [Act.put, List.setIfInBounds_toArray, List.set_cons_zero, List.set_cons_succ]
        refine Grow.T.runs_read (by decide) (by decide) (.pointer (some ⟨Bx, 5, none⟩)) (.inl ?_) (.inl ?_) (.inl ?_) ?_
        · go_simp
        · go_simp
        · go_simp
        simp only [Act.put, List.setIfInBounds_toArray, List.set_cons_zero, List.set_cons_succ]
        refine Grow.T.runs_read (by decide) (by decide) (.int .i64 (b' : Int)) (.inl ?_) (.inl ?_) (.inl ?_) ?_
        · go_simp
        · go_simp
        · go_simp
        simp only [Act.put, List.setIfInBounds_toArray, List.set_cons_zero, List.set_cons_succ]
        refine Grow.T.runs_read (by decide) (by decide) (.pointer (some ⟨w.heap.size, a', none⟩)) (.inl ?_) (.inl ?_) (.inl ?_) ?_
        · go_simp
        · go_simp
        · go_simp
        simp only [Act.put, List.setIfInBounds_toArray, List.set_cons_zero, List.set_cons_succ]
        refine Grow.T.runs_first rfl (.inr ⟨?_, rfl⟩) ?_
        · go_simp
        simp only [Act.put]
        refine Grow.T.runs_read (by decide) (by decide) (.pointer (some ⟨w.heap.size, b', none⟩)) (.inl ?_) (.inl ?_) (.inl ?_) ?_
        · go_simp
        · go_simp
        · go_simp
        simp only [Act.put, List.setIfInBounds_toArray, List.set_cons_zero, List.set_cons_succ]
        refine Grow.T.runs_last (by decide) rfl (.inr ⟨?_, rfl⟩) ?_
        · go_simp
        simp only [Act.put]
        simp only [Grow.T.Runs]
        gi_wp2
        exact ⟨Hke.out, ⟨hBy.out, Hbk.out⟩, ⟨_, g12, g22, Hnx.out, hBz.out⟩⟩
      · have hk41 : (kd == 4) = false := beq_eq_false_iff_ne.2 hk4
        simp only [hk4, and_false, if_false] at Hnx
        clear hk4 Hj
        gi_wp2
        exact ⟨(KeepsOthers.refl _).from _, ⟨Below.refl _ _, fun u hu => hu⟩, ⟨U, g1, g2, Hnx.out, hB⟩⟩
  case done =>
    rintro D ys W hD hS ⟨U, g1, g2, g3, hB⟩ hK
    have hU := marks_end g3 hS
    subst hU
    have xb := g2.cell
    have hBd := hB.trans (belowK_b (w := W0) hB0.size W D (.deferred (some [])) (.deferred none) hD hK rfl rfl)
    gi_wp2
    refine ⟨by simp, .inl ⟨_, _, rfl, run_takeDeferred hK, ?_⟩⟩
    exact ⟨_, results_tmp rfl _ _ _, rfl, row_kept g1 (grownBy_putObj' _ _ _) (fun e => by injection e with e; omega), hBd⟩
  case stop =>
    rintro D c pre W hD hpre hF hK
    exact hF.elim
theorem specMarkPf : SpecMarkPf := fun l A n c w h hok h1 hn => markPf_any l A n c w h hok h1 hn
end Go.Proofs.Ytdggnakjfcmnmaa.Proof
