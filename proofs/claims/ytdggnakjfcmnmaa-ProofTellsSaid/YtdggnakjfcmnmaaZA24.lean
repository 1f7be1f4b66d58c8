/-
  Some texts of this claim, one behind the other: ProofRefTrim. What each proves, and its condition, stands at its head.
-/
import Derived.Test.YtdggnakjfcmnmaaZA9
import Derived.Test.YtdggnakjfcmnmaaZA15
import Derived.Test.YtdggnakjfcmnmaaZA22
import Derived.Deep.OwnRows
/-
  The contract of the document's own Trim of a proof: the steps that its last one uses. Condition: a proof that may be.
-/
namespace Go.Proofs.Ytdggnakjfcmnmaa.Proof
open Go Go.RowKit Go.Lib Go.Proofs.Ytdggnakjfcmnmaa.Need
set_option linter.unusedVariables false
theorem rowIs_below {w w' : World} {b B n : Nat} {t : TypeId} {f : Nat → Value} (h : w.rowIs b t n f) (hb : Below B w w') (hg : b < B) : w'.rowIs b t n f := h.of_block (hb.block b hg)
theorem own_apart {w w' : World} {B size n : Nat} {T : TypeId} {v : Value} {xs : List Value} {row : Option Nat} (h : w.ownsRow B T size v n xs) (hg : w.grownBy w' row) (hne : ∀ b, v.ownBlock = some b → some b ≠ row) : w'.ownsRow B T size v n xs := by
  refine ⟨h.1, ?_⟩
  rcases h.2 with hn | ⟨g, cap, cur, hv, hB, hh, r⟩
  · exact .inl hn
  · exact .inr ⟨g, cap, cur, hv, hB, (hg.block g (Array.getElem?_eq_some_iff.1 hh).1 (hne g (by rw [hv]; rfl))).trans hh, r⟩
theorem NewPf.store {w : World} {B n c : Nat} {A : Option Addr} {l : List Sp} (h : NewPf w B A n c l) {g : Nat} (hg : g < B) (i : Nat) (u : Value) : NewPf (w.setCell ⟨g, i, none⟩ u) B A n c l := by
  have hown := own_apart h.2.2.1 (only_setCell (p := ⟨g, i, none⟩) (only_self w g) (.inl rfl) u) (fun b hb e => by
    injection e with e
    have := (h.2.2.1.lt b hb).1
    omega)
  obtain ⟨A', c', e, hN⟩ := newPf_of_own hown
  injection e with e1 e2 e3
  subst e1 e3
  exact hN
theorem set_only_ (w : World) (b i : Nat) (u : Value) : w.grownBy (w.setCell ⟨b, i, none⟩ u) (some b) := only_setCell (p := ⟨b, i, none⟩) (only_self w b) (.inl rfl) _
theorem left_len_ {l : List Sp} {i n : Nat} {out : List Sp} (h : out = (List.range i).filterMap (leftT l)) (hl : l.length = n) (hi : i ≤ n) : out.length = atT l i := by
  rw [h]
  exact left_len i (by omega)
theorem at_row {l : List Sp} {At : Nat → Nat} {i no : Nat} (h : ∀ j, j < i → At j = atT l j) (hno : no = atT l i) : ∀ j, j < i + 1 → (if j = i then no else At j) = atT l j := fun j hj => by
  by_cases e : j = i
  · rw [if_pos e, e]; exact hno
  · rw [if_neg e]; exact h j (by omega)
theorem at_cells (At : Nat → Nat) (i no j : Nat) : (if j = i then Value.int .i64 (no : Int) else Value.int .i64 (At j : Int)) = Value.int .i64 (((if j = i then no else At j : Nat)) : Int) := by
  by_cases e : j = i
  · rw [if_pos e, if_pos e]
  · rw [if_neg e, if_neg e]
theorem left_more {l : List Sp} {i : Nat} {s : Sp} (hs : l[i]? = some s) : (List.range (i + 1)).filterMap (leftT l) = (List.range i).filterMap (leftT l) ++ (if usedT l i = true then [reS l s] else []) := by
  rw [List.range_succ, List.filterMap_append]
  congr 1
  unfold leftT
  by_cases hu : usedT l i = true
  · simp [hs, hu]
  · simp [hs, hu]
theorem mark_next {l : List Sp} {j : Nat} {s : Sp} (hs : l[j]? = some s) (u : Nat → Bool) : markT l (j + 1) u = markT l j (if u j = true ∧ s.kind = 4 then setU (setU u s.a.toNat) s.b.toNat else u) := by
  unfold markT
  rw [step_some hs]
  cases j <;> rfl
theorem set_two (u : Nat → Bool) (a b : Nat) (j : Nat) : (if j = b then Value.bool true else if j = a then Value.bool true else Value.bool (u j)) = Value.bool (setU (setU u a) b j) := by
  unfold setU
  by_cases h1 : j = b
  · simp [h1]
  · by_cases h2 : j = a
    · simp [h2]
    · simp [h1, h2]
set_option maxHeartbeats 8000000 in
set_option maxRecDepth 100000 in
theorem refTrimPf_any (l : List Sp) (A : Option Addr) (n c : Nat) (w : World) (h : PfOn w A n l) (hok : OkSteps l) (h1 : 1 ≤ n) (hn : n ≤ 1048576) :
    Calls Try.prog 13 #[.slice A n c] w (MakesPf w (trimT l)) := by
  obtain ⟨i0, hi0, hz0, hz1, hz2⟩ := info_parts info_pf
  unfold MakesPf
  have hlen := h.len
  have hmk1 := run_make_row' (P := Try.prog) 44 4 (.bool false) 1 Try.underlying44 (by kernel_rfl) rfl .i64 .i64 n (by omega) (by omega)
  have hmk2 := run_make_row' (P := Try.prog) 46 3 (.int .i64 0) 8 Try.underlying46 (by kernel_rfl) rfl .i64 .i64 n (by omega) (by omega)
  have HU : Hid (markT l n (fun k => decide (k = n - 1)) = usedT l) := hide (by unfold usedT; rw [hlen])
  obtain ⟨R, hR⟩ : ∃ R, R = trimT l := ⟨_, rfl⟩
  have HR : Hid (R = (List.range n).filterMap (leftT l)) := hide (by rw [hR]; unfold trimT; rw [hlen])
  rw [← hR]
  clear hR
  have Hlen := hide hlen
  clear hlen
  obtain ⟨m, hm⟩ : ∃ m, n = m + 1 := ⟨n - 1, by omega⟩
  have hw0 : IntKind.i64.wrap ((n : Int) - 1) = (m : Int) := by rw [IntKind.wrap_i64]; omega
  have i1 : (0 : Int) ≤ (m : Int) := by omega
  have i2 : (m : Int) < (n : Int) := by omega
  have hrow := World.rowIs_made w (.bool false) n 4
  have Hm := hide hm
  clear hm
  go_enter Try.func13, Try.ntmps13
  go_upto_region 2 with fail
  have hb0 : Below w.heap.size w (w.alloc (.cells (madeCells #[.bool false] n) 4)) := alloc_b _ _
  generalize w.alloc (.cells (madeCells #[.bool false] n) 4) = W0 at *
  have x0 := hrow.cell (i := m) (by have := Hm.out; omega)
  have f0 := hrow.frozen m
  have hlt0 := hrow.lt
  go_upto_region 3 with fail
  have hrow1 : (W0.setCell ⟨w.heap.size, m, none⟩ (.bool true)).rowIs w.heap.size 4 n (fun j => .bool (decide (j = n - 1))) := (hrow.set m (.bool true)).congr fun j hj => by
    have := Hm.out
    by_cases e : j = m
    · rw [if_pos e]; congr 1; symm; exact decide_eq_true (by omega)
    · rw [if_neg e]; congr 1; symm; exact decide_eq_false (by omega)
  have hb1 : Below w.heap.size w (W0.setCell ⟨w.heap.size, m, none⟩ (.bool true)) := hb0.setCell (Nat.le_refl _) _
  generalize W0.setCell ⟨w.heap.size, m, none⟩ (.bool true) = W1 at *
  clear hrow hb0 x0 f0 hlt0 hmk1
  go_wp2
  go_loopw [4] (fun v wr => ∃ (k : Nat) (U : Nat → Bool), k ≤ n ∧ v = .int .i64 ((k : Int) - 1) ∧ Hid (markT l k U = usedT l) ∧ wr.rowIs w.heap.size 4 n (fun j => .bool (U j)) ∧ Below w.heap.size w wr) (fun v _ => (RowKit.intOf v + 1).toNat)
  case atStart => exact ⟨n, _, Nat.le_refl _, by have := Hm.out; congr 1; omega, HU, hrow1, hb1⟩
  case round =>
    obtain ⟨k, U, hk, rfl, hU, hrw, hb⟩ := hrel
    clear hrow1 hb1
    cases k with
    | zero =>
      obtain ⟨z4, hz4⟩ : ∃ z : Int, z = ((0 : Nat) : Int) - 1 := ⟨_, rfl⟩
      rw [← hz4]
      have hz : ¬ (0 : Int) ≤ z4 := by omega
      clear hz4
      have hUe : U = usedT l := hU.out
      subst hUe
      clear hU hw0 i1 i2 Hm HU
      go_upto_region 10 with fail
      have hrow2 := World.rowIs_made wr (.int .i64 0) n 3
      have hrw2 := hrw.alloc (.cells (madeCells #[.int .i64 0] n) 3)
      have hbV := hb.alloc hb.size (.cells (madeCells #[.int .i64 0] n) 3)
      have h12 : w.heap.size < wr.heap.size := hrw.lt
      have hg2V := hrow2.lt
      clear hrw hb
      generalize wr.alloc (.cells (madeCells #[.int .i64 0] n) 3) = V at *
      generalize wr.heap.size = g2 at *
      clear hz hmk2
      go_wp2
      go_loopw [6, 7] (fun u v wx => ∃ (i : Nat) (At : Nat → Nat) (Ao : Option Addr) (no co : Nat) (out : List Sp), i ≤ n ∧ u = .slice Ao no co ∧ v = .int .i64 (i : Int) ∧ Hid (out = (List.range i).filterMap (leftT l)) ∧ Hid (∀ j, j < i → At j = atT l j) ∧ wx.rowIs w.heap.size 4 n (fun j => .bool (usedT l j)) ∧ wx.rowIs g2 3 n (fun j => .int .i64 (At j : Int)) ∧ NewPf wx V.heap.size Ao no co out ∧ V.heap.size ≤ wx.heap.size ∧ Below w.heap.size w wx) (fun _ v _ => n - (RowKit.intOf v).toNat)
      case atStart => exact ⟨0, fun _ => 0, none, 0, 0, [], by omega, rfl, rfl, hide rfl, hide (fun j hj => by omega), hrw2, hrow2, NewPf.nil_ _ _, Nat.le_refl _, hbV⟩
      case round =>
        obtain ⟨i, At, Ao, no, co, out, hi, rfl, rfl, hout, hAt, hus, hats, hN, hVx, hb⟩ := hrel
        clear hrow2 hrw2 hbV
        by_cases hlt : i < n
        · obtain ⟨ad, q, rfl, hbl, hx, d0, d1, d2, d3, d4, d5⟩ := PfIn.at_ h hlt
          have hno : no = atT l i := by rw [hN.1]; exact left_len_ hout.out Hlen.out hi
          have hle : atT l i ≤ i := by unfold atT; exact Nat.le_trans (List.length_filter_le _ _) (by simp)
          have hno2 : no ≤ n := by omega
          have Hm := hide (left_more hx)
          have Hj4 := hide (fun hk => may_joined (hok i q hx) hk)
          have HA9 := hide (at_row hAt.out hno)
          have xa := hats.cell hlt
          have fa := hats.frozen i
          have j1 : (0 : Int) ≤ (i : Int) := by omega
          have j2 : (i : Int) < (n : Int) := by omega
          clear hx hno
          go_upto_region 15 with fail
          have hus5 := hus.setOther (a := ⟨g2, i, none⟩) (by simp only []; omega) (.int .i64 (no : Int))
          have hat5 := (hats.set i (.int .i64 (no : Int))).congr (fun j hj => at_cells At i no j)
          have hN5 := hN.store hg2V i (.int .i64 (no : Int))
          have hb5 := hb.setCell (p := ⟨g2, i, none⟩) (by simp only []; omega) (.int .i64 (no : Int))
          have hV5 : V.heap.size ≤ (wr.setCell ⟨g2, i, none⟩ (.int .i64 (no : Int))).heap.size := by rw [World.size_setCell]; exact hVx
          clear xa fa hus hats hN hb hVx
          generalize wr.setCell ⟨g2, i, none⟩ (.int .i64 (no : Int)) = W5 at *
          have xu := hus5.cell hlt
          have hown5 := hN5.2.2.1
          obtain ⟨k0, nm, v, d, a, b⟩ := q
          simp only [] at d0 d1 d2 d3 d4 d5 Hj4
          have c0 := (hb5.cell (p := ad.add (i * 6)) (by simp only [block_of_add]; exact hbl)).trans d0
          have c1 := (hb5.cell (p := ⟨(ad.add (i * 6)).block, (ad.add (i * 6)).off + 1, none⟩) (by simp only [block_of_add]; exact hbl)).trans d1
          have c2 := (hb5.cell (p := ⟨(ad.add (i * 6)).block, (ad.add (i * 6)).off + 2, none⟩) (by simp only [block_of_add]; exact hbl)).trans d2
          have c3 := (hb5.cell (p := ⟨(ad.add (i * 6)).block, (ad.add (i * 6)).off + 3, none⟩) (by simp only [block_of_add]; exact hbl)).trans d3
          have c4 := (hb5.cell (p := ⟨(ad.add (i * 6)).block, (ad.add (i * 6)).off + 4, none⟩) (by simp only [block_of_add]; exact hbl)).trans d4
          have c5 := (hb5.cell (p := ⟨(ad.add (i * 6)).block, (ad.add (i * 6)).off + 5, none⟩) (by simp only [block_of_add]; exact hbl)).trans d5
          cases hu : usedT l i with
          | false =>
            rw [hu] at xu Hm
            have e := hide (show out = (List.range (i + 1)).filterMap (leftT l) by rw [Hm.out, ← hout.out, if_neg (by simp), List.append_nil])
            clear Hm hout
            go_wp2
            go_roundw
            case rel => exact ⟨i + 1, _, Ao, no, co, out, by omega, rfl, by go_num, e, HA9, hus5, hat5, hN5, hV5, hb5⟩
            case measure => simp [RowKit.intOf]; omega
          | true =>
            rw [hu] at xu Hm
            have Hm2 := hide (show (List.range (i + 1)).filterMap (leftT l) = out ++ [reS l ⟨k0, nm, v, d, a, b⟩] by rw [Hm.out, ← hout.out, if_pos rfl])
            clear Hm hout hu
            go_upto_region 17 with fail
            have hVW5 := Nat.le_of_lt (Nat.lt_of_le_of_lt hV5 (by simp : W5.heap.size < (W5.alloc (.cells #[.int .i64 k0, .string nm, .int .i64 v, .string d, .int .i64 a, .int .i64 b] 40)).heap.size))
            have B6 := Blk.new W5 40 #[.int .i64 k0, .string nm, .int .i64 v, .string d, .int .i64 a, .int .i64 b]
            have hus6 := hus5.alloc (.cells #[.int .i64 k0, .string nm, .int .i64 v, .string d, .int .i64 a, .int .i64 b] 40)
            have hat6 := hat5.alloc (.cells #[.int .i64 k0, .string nm, .int .i64 v, .string d, .int .i64 a, .int .i64 b] 40)
            have hown6 := hown5.alloc (.cells #[.int .i64 k0, .string nm, .int .i64 v, .string d, .int .i64 a, .int .i64 b] 40)
            have hb6 := hb5.alloc hb5.size (.cells #[.int .i64 k0, .string nm, .int .i64 v, .string d, .int .i64 a, .int .i64 b] 40)
            have hgb : V.heap.size ≤ W5.heap.size := hV5
            have hown6g := fun k hk => (hown5.lt k hk).2
            clear xu c0 c1 c2 c3 c4 c5 hus5 hown5 hb5 hN5 hV5
            generalize W5.alloc (.cells #[.int .i64 k0, .string nm, .int .i64 v, .string d, .int .i64 a, .int .i64 b] 40) = W6 at *
            generalize W5.heap.size = gb at *
            have p0 := (B6.cell 0).trans (show (#[Value.int .i64 k0, .string nm, .int .i64 v, .string d, .int .i64 a, .int .i64 b] : Array Value)[0]? = some (.int .i64 k0) from rfl)
            by_cases hk4 : k0 = 4
            · have hk41 : (k0 == 4) = true := beq_iff_eq.2 hk4
              obtain ⟨q1, q2, q3, q4⟩ := Hj4.out hk4
              obtain ⟨a', rfl⟩ : ∃ a' : Nat, a = (a' : Int) := ⟨a.toNat, by omega⟩
              obtain ⟨b', rfl⟩ : ∃ b' : Nat, b = (b' : Int) := ⟨b.toNat, by omega⟩
              have Hre : Hid (reS l ⟨k0, nm, v, d, (a' : Int), (b' : Int)⟩ = ⟨k0, nm, v, d, (atT l a' : Int), (atT l b' : Int)⟩) := hide (by unfold reS; simp only [hk4, if_true, Int.toNat_natCast])
              have ja2 : (a' : Int) < (n : Int) := by omega
              have jb2 : (b' : Int) < (n : Int) := by omega
              have ea : (if a' = i then no else At a') = atT l a' := HA9.out a' (by omega)
              have eb : (if b' = i then no else At b') = atT l b' := HA9.out b' (by omega)
              have xa := (hat6.cell (i := a') (by omega)).trans (by rw [ea])
              have xbv : some (Value.int .i64 ((if b' = i then no else At b' : Nat) : Int)) = some (Value.int .i64 (atT l b' : Int)) := by rw [eb]
              have hownlt := fun k hk => (hown6g k hk)
              have p4 := (B6.cell 4).trans (show (#[Value.int .i64 k0, .string nm, .int .i64 v, .string d, .int .i64 (a' : Int), .int .i64 (b' : Int)] : Array Value)[4]? = some (.int .i64 (a' : Int)) from rfl)
              have f4 := B6.frozen 4
              clear hk4 Hj4 ea eb
              generalize atT l a' = ax at *
              generalize atT l b' = bx at *
              go_upto_region 19 with fail
              have B7 := B6.set_ 4 (.int .i64 (ax : Int))
              have g7 := set_only_ W6 gb 4 (.int .i64 (ax : Int))
              have hus7 := hus6.setOther (a := ⟨gb, 4, none⟩) (by simp only []; omega) (.int .i64 (ax : Int))
              have hat7 := hat6.setOther (a := ⟨gb, 4, none⟩) (by simp only []; omega) (.int .i64 (ax : Int))
              have hown7 := own_apart hown6 g7 (fun k hk e => by injection e with e; have := hownlt k hk; omega)
              have hb7 := hb6.setCell (p := ⟨gb, 4, none⟩) (by simp only []; omega) (.int .i64 (ax : Int))
              have hV7 : V.heap.size ≤ (W6.setCell ⟨gb, 4, none⟩ (.int .i64 (ax : Int))).heap.size := by rw [World.size_setCell]; exact hVW5
              clear p0 xa p4 f4 hus6 hat6 hown6 hb6 hVW5 g7
              generalize W6.setCell ⟨gb, 4, none⟩ (.int .i64 (ax : Int)) = W7 at *
              have xb := (hat7.cell (i := b') (by omega)).trans xbv
              have p5 := (B7.cell 5).trans (show _ = some (.int .i64 (b' : Int)) from rfl)
              have f5 := B7.frozen 5
              go_upto_region 20 with fail
              have B8 := B7.set_ 5 (.int .i64 (bx : Int))
              have g8 := set_only_ W7 gb 5 (.int .i64 (bx : Int))
              have husW := hus7.setOther (a := ⟨gb, 5, none⟩) (by simp only []; omega) (.int .i64 (bx : Int))
              have hatW := hat7.setOther (a := ⟨gb, 5, none⟩) (by simp only []; omega) (.int .i64 (bx : Int))
              have hownW := own_apart hown7 g8 (fun k hk e => by injection e with e; have := hownlt k hk; omega)
              have hbW := hb7.setCell (p := ⟨gb, 5, none⟩) (by simp only []; omega) (.int .i64 (bx : Int))
              have hVW : V.heap.size ≤ (W7.setCell ⟨gb, 5, none⟩ (.int .i64 (bx : Int))).heap.size := by rw [World.size_setCell]; exact hV7
              clear xb p5 f5 hus7 hat7 hown7 hb7 hV7 g8 B7 hownlt
              generalize W7.setCell ⟨gb, 5, none⟩ (.int .i64 (bx : Int)) = W8 at *
              have p0 := (B8.cell 0).trans (show _ = some (.int .i64 k0) from rfl)
              have p1 := (B8.cell 1).trans (show _ = some (.string nm) from rfl)
              have p2 := (B8.cell 2).trans (show _ = some (.int .i64 v) from rfl)
              have p3 := (B8.cell 3).trans (show _ = some (.string d) from rfl)
              have p4 := (B8.cell 4).trans (show _ = some (.int .i64 (ax : Int)) from rfl)
              have p5 := (B8.cell 5).trans (show _ = some (.int .i64 (bx : Int)) from rfl)
              have e : Hid ((List.range (i + 1)).filterMap (leftT l) = out ++ [⟨k0, nm, v, d, (ax : Int), (bx : Int)⟩]) := hide (by rw [Hm2.out, Hre.out])
              clear Hm2 Hre B8
              go_wp2_with (first
                | (at_builtin
                   refine wpList_append_any _ rfl (.tmp 88) (.tmp 90) _ rfl V.heap.size 40 i0 _ 6 64 Try.underlying22 hi0 hz0 hz1 hz2 rfl (by omega) _ _ _ rfl
                     (hownW.alloc _) _ _ 1 _ _ rfl (reads_pf W8 (⟨k0, nm, v, d, (ax : Int), (bx : Int)⟩ : Sp) _ _ rfl) (pfs_one _) (by unfold maxLen; omega) (by omega) (by simp; omega) ?_
                   intro v9 w9 hown9 hg9 hat9
                   have hlo := fun k hk => ((hownW.alloc (.cells #[.int .i64 ((⟨k0, nm, v, d, (ax : Int), (bx : Int)⟩ : Sp)).kind, .string ((⟨k0, nm, v, d, (ax : Int), (bx : Int)⟩ : Sp)).name, .int .i64 ((⟨k0, nm, v, d, (ax : Int), (bx : Int)⟩ : Sp)).ver, .string ((⟨k0, nm, v, d, (ax : Int), (bx : Int)⟩ : Sp)).dest, .int .i64 ((⟨k0, nm, v, d, (ax : Int), (bx : Int)⟩ : Sp)).a, .int .i64 ((⟨k0, nm, v, d, (ax : Int), (bx : Int)⟩ : Sp)).b] 40)).lt k hk).1
                   have hx9 : Below V.heap.size W8 w9 := ((Below.refl V.heap.size W8).alloc hVW _).grown hg9 (by simp; omega) (fun k hk => hlo k hk)
                   have hu9 := rowIs_below husW hx9 (by omega)
                   have ha9 := rowIs_below hatW hx9 hg2V
                   have hb9 : Below w.heap.size w w9 := hbW.trans (hx9.mono (by omega))
                   have hV9 := Nat.le_trans hVW hx9.size
                   rw [← pfs_append] at hown9
                   obtain ⟨A9, c9, rfl, hN9⟩ := newPf_of_own hown9))
              go_roundw
              case rel => exact ⟨i + 1, _, A9, no + 1, c9, _, by omega, rfl, by go_num, hide e.out.symm, HA9, hu9, ha9, hN9, hV9, hb9⟩
              case measure => simp [RowKit.intOf]; omega
            · have hk41 : (k0 == 4) = false := beq_eq_false_iff_ne.2 hk4
              have e : Hid ((List.range (i + 1)).filterMap (leftT l) = out ++ [⟨k0, nm, v, d, a, b⟩]) := hide (by rw [Hm2.out]; unfold reS; simp only [hk4, if_false])
              have p1 := (B6.cell 1).trans (show (#[Value.int .i64 k0, .string nm, .int .i64 v, .string d, .int .i64 a, .int .i64 b] : Array Value)[1]? = some (.string nm) from rfl)
              have p2 := (B6.cell 2).trans (show (#[Value.int .i64 k0, .string nm, .int .i64 v, .string d, .int .i64 a, .int .i64 b] : Array Value)[2]? = some (.int .i64 v) from rfl)
              have p3 := (B6.cell 3).trans (show (#[Value.int .i64 k0, .string nm, .int .i64 v, .string d, .int .i64 a, .int .i64 b] : Array Value)[3]? = some (.string d) from rfl)
              have p4 := (B6.cell 4).trans (show (#[Value.int .i64 k0, .string nm, .int .i64 v, .string d, .int .i64 a, .int .i64 b] : Array Value)[4]? = some (.int .i64 a) from rfl)
              have p5 := (B6.cell 5).trans (show (#[Value.int .i64 k0, .string nm, .int .i64 v, .string d, .int .i64 a, .int .i64 b] : Array Value)[5]? = some (.int .i64 b) from rfl)
              have hownW := hown6
              have husW := hus6
              have hatW := hat6
              have hbW := hb6
              have hVW := hVW5
              clear hk4 Hj4 Hm2 hown6 hus6 hat6 hb6 hVW5 B6
              go_wp2_with (first
                | (at_builtin
                   refine wpList_append_any _ rfl (.tmp 88) (.tmp 90) _ rfl V.heap.size 40 i0 _ 6 64 Try.underlying22 hi0 hz0 hz1 hz2 rfl (by omega) _ _ _ rfl
                     (hownW.alloc _) _ _ 1 _ _ rfl (reads_pf W6 (⟨k0, nm, v, d, a, b⟩ : Sp) _ _ rfl) (pfs_one _) (by unfold maxLen; omega) (by omega) (by simp; omega) ?_
                   intro v9 w9 hown9 hg9 hat9
                   have hlo := fun k hk => ((hownW.alloc (.cells #[.int .i64 ((⟨k0, nm, v, d, a, b⟩ : Sp)).kind, .string ((⟨k0, nm, v, d, a, b⟩ : Sp)).name, .int .i64 ((⟨k0, nm, v, d, a, b⟩ : Sp)).ver, .string ((⟨k0, nm, v, d, a, b⟩ : Sp)).dest, .int .i64 ((⟨k0, nm, v, d, a, b⟩ : Sp)).a, .int .i64 ((⟨k0, nm, v, d, a, b⟩ : Sp)).b] 40)).lt k hk).1
                   have hx9 : Below V.heap.size W6 w9 := ((Below.refl V.heap.size W6).alloc hVW _).grown hg9 (by simp; omega) (fun k hk => hlo k hk)
                   have hu9 := rowIs_below husW hx9 (by omega)
                   have ha9 := rowIs_below hatW hx9 hg2V
                   have hb9 : Below w.heap.size w w9 := hbW.trans (hx9.mono (by omega))
                   have hV9 := Nat.le_trans hVW hx9.size
                   rw [← pfs_append] at hown9
                   obtain ⟨A9, c9, rfl, hN9⟩ := newPf_of_own hown9))
              go_roundw
              case rel => exact ⟨i + 1, _, A9, no + 1, c9, _, by omega, rfl, by go_num, hide e.out.symm, HA9, hu9, ha9, hN9, hV9, hb9⟩
              case measure => simp [RowKit.intOf]; omega
        · have hi2 : i = n := by omega
          subst hi2
          have e : Hid (out = R) := hide (by rw [HR.out]; exact hout.out)
          clear hout
          go_wp2
          go_ret
          rw [← e.out]
          exact ⟨Ao, no, co, rfl, hN.less (by omega), hb⟩
    | succ j =>
      have ej : ((j + 1 : Nat) : Int) - 1 = (j : Int) := by omega
      rw [ej]
      obtain ⟨ad, q, rfl, hbl, hx, d0, d1, d2, d3, d4, d5⟩ := PfIn.at_ h (show j < n by omega)
      have hnx := hU.out
      rw [mark_next hx] at hnx
      have hj4 := hide (fun hk => may_joined (hok j q hx) hk)
      have xu := hrw.cell (i := j) (by omega)
      obtain ⟨k0, nm, v, d, a, b⟩ := q
      simp only [] at d0 d1 d2 d3 d4 d5 hj4 hnx
      have c0 := (hb.cell (p := ad.add (j * 6)) (by simp only [block_of_add]; exact hbl)).trans d0
      have c1 := (hb.cell (p := ⟨(ad.add (j * 6)).block, (ad.add (j * 6)).off + 1, none⟩) (by simp only [block_of_add]; exact hbl)).trans d1
      have c2 := (hb.cell (p := ⟨(ad.add (j * 6)).block, (ad.add (j * 6)).off + 2, none⟩) (by simp only [block_of_add]; exact hbl)).trans d2
      have c3 := (hb.cell (p := ⟨(ad.add (j * 6)).block, (ad.add (j * 6)).off + 3, none⟩) (by simp only [block_of_add]; exact hbl)).trans d3
      have c4 := (hb.cell (p := ⟨(ad.add (j * 6)).block, (ad.add (j * 6)).off + 4, none⟩) (by simp only [block_of_add]; exact hbl)).trans d4
      have c5 := (hb.cell (p := ⟨(ad.add (j * 6)).block, (ad.add (j * 6)).off + 5, none⟩) (by simp only [block_of_add]; exact hbl)).trans d5
      have j1 : (0 : Int) ≤ (j : Int) := by omega
      have j2 : (j : Int) < (n : Int) := by omega
      have hwj : IntKind.i64.wrap ((j : Int) - 1) = (j : Int) - 1 := by rw [IntKind.wrap_i64]; omega
      clear ej hx hU hw0 i1 i2
      cases hu : U j with
      | false =>
        rw [hu] at xu hnx
        rw [if_neg (by simp)] at hnx
        have Hn := hide hnx
        clear hnx hu d0 d1 d2 d3 d4 d5
        go_wp2
        go_roundw
        case rel => exact ⟨j, U, by omega, rfl, Hn, hrw, hb⟩
        case measure => simp [RowKit.intOf]
      | true =>
        rw [hu] at xu hnx
        by_cases hk4 : k0 = 4
        · have hk41 : (k0 == 4) = true := beq_iff_eq.2 hk4
          rw [if_pos ⟨rfl, hk4⟩] at hnx
          obtain ⟨g1, g2, g3, g4⟩ := hj4.out hk4
          obtain ⟨a', rfl⟩ : ∃ a' : Nat, a = (a' : Int) := ⟨a.toNat, by omega⟩
          obtain ⟨b', rfl⟩ : ∃ b' : Nat, b = (b' : Int) := ⟨b.toNat, by omega⟩
          simp only [Int.toNat_natCast] at hnx
          have Hn := hide hnx
          have ja2 : (a' : Int) < (n : Int) := by omega
          have jb2 : (b' : Int) < (n : Int) := by omega
          have xa := hrw.cell (i := a') (by omega)
          have fa := hrw.frozen a'
          clear hnx hu hk4 hj4
          go_upto_region 8 with fail
          have hrw5 := hrw.set a' (.bool true)
          have hb5 := hb.setCell (p := ⟨w.heap.size, a', none⟩) (Nat.le_refl _) (.bool true)
          generalize wr.setCell ⟨w.heap.size, a', none⟩ (.bool true) = W5 at *
          clear c0 c1 c2 c3 c4 c5 xa fa xu
          have c0 := (hb5.cell (p := ad.add (j * 6)) (by simp only [block_of_add]; exact hbl)).trans d0
          have c1 := (hb5.cell (p := ⟨(ad.add (j * 6)).block, (ad.add (j * 6)).off + 1, none⟩) (by simp only [block_of_add]; exact hbl)).trans d1
          have c2 := (hb5.cell (p := ⟨(ad.add (j * 6)).block, (ad.add (j * 6)).off + 2, none⟩) (by simp only [block_of_add]; exact hbl)).trans d2
          have c3 := (hb5.cell (p := ⟨(ad.add (j * 6)).block, (ad.add (j * 6)).off + 3, none⟩) (by simp only [block_of_add]; exact hbl)).trans d3
          have c4 := (hb5.cell (p := ⟨(ad.add (j * 6)).block, (ad.add (j * 6)).off + 4, none⟩) (by simp only [block_of_add]; exact hbl)).trans d4
          have c5 := (hb5.cell (p := ⟨(ad.add (j * 6)).block, (ad.add (j * 6)).off + 5, none⟩) (by simp only [block_of_add]; exact hbl)).trans d5
          have xb := hrw5.cell (i := b') (by omega)
          have fb := hrw5.frozen b'
          have hrw6 := (hrw5.set b' (.bool true)).congr (fun i hi => set_two U a' b' i)
          have hb6 := hb5.setCell (p := ⟨w.heap.size, b', none⟩) (Nat.le_refl _) (.bool true)
          clear d0 d1 d2 d3 d4 d5 hrw5
          go_wp2
          go_roundw
          case rel => exact ⟨j, _, by omega, rfl, Hn, hrw6, hb6⟩
          case measure => simp [RowKit.intOf]
        · have hk41 : (k0 == 4) = false := beq_eq_false_iff_ne.2 hk4
          rw [if_neg (by simp [hk4])] at hnx
          have Hn := hide hnx
          clear hnx hu d0 d1 d2 d3 d4 d5 hj4 hk4
          go_wp2
          go_roundw
          case rel => exact ⟨j, U, by omega, rfl, Hn, hrw, hb⟩
          case measure => simp [RowKit.intOf]
end Go.Proofs.Ytdggnakjfcmnmaa.Proof
