/-
  The contract of Show, of picks that may be. Condition: no more than 1,000 picks; the tables hold what the texts lay in them.
-/
import Derived.Test.YtnkcjemobljpdaaDoorPickCheck
import Derived.Test.YtnkcjemobljpdaaDoorPickLay
import Derived.Test.YtnkcjemobljpdaaDoorPickSplit
import Derived.Test.YtnkcjemobljpdaaDoorGrowW
import Derived.Test.YtnkcjemobljpdaaDoorGrowWords
namespace Go.Proofs.YtnkcjemobljpdaaDoor.Pick
open Go Go.RowKit Go.Lib Go.Shelf Go.Proofs.YtnkcjemobljpdaaDoor.Need Go.Proofs.YtnkcjemobljpdaaDoor.Grow
open Go.Proofs.YtnkcjemobljpdaaDoor.Label (runes fitL)
open Go.Proofs.YtnkcjemobljpdaaDoor.Ver (txt txt_len txz text_z)
set_option linter.unusedVariables false
theorem cell_at {w : World} {p : Addr} {v : Value} (h : w.cell? p = some v) (hp : p.block < w.heap.size) (d : Nat) (os : Array Obj) : (Sort.grow (redrawn w d) os).cell? p = some v :=
  ((below_regrown w d os).cell hp).trans h
/-- How a pick is written. -/
def partP (q : Pk) : ByteArray := q.1 ++ ⟨#[32]⟩ ++ str (txz q.2)
theorem txz_ok {v : Int} (h : verOk v = true) : txz v = txt v.toNat := by
  unfold txz
  rw [if_pos (verOk_iff.1 h)]
theorem partP_eq {q : Pk} (h : verOk q.2 = true) : partP q = str (pickB q) := by
  unfold partP pickB
  rw [txz_ok h]
  have e : q.1 = str q.1.data.toList := (str_of q.1).symm
  rw [e]
  have e2 : (⟨#[32]⟩ : ByteArray) = str [32] := rfl
  rw [e2, str_append, str_append]
  congr 1
  simp [str]
theorem joinP_any (g c : Nat) (l : List Pk) (w : World) (hcells : ∀ (j : Nat) q, l[j]? = some q → w.cell? ⟨g, j, none⟩ = some (.string (str (pickB q)))) (hg : g < w.heap.size) (hc : l.length ≤ c) (hl : l.length ≤ 1000) (h0 : l ≠ []) (hf : Fits1 l) :
    Calls Tryd.prog 31 #[.slice (some ⟨g, 0, none⟩) l.length c, .string ⟨#[44, 32]⟩] w fun e w' => e = .returned (.string (str (showB l))) ∧ Below w.heap.size w w' := by
  have hd : (l.map fun q => str (pickB q)).map (·.data.toList) = l.map pickB := by rw [List.map_map]; rfl
  have hj := join_show h0
  have hln := showB_len hf
  have h := Any.strings_Join laysJ extraJ g 0 c (l.map fun q => str (pickB q)) ⟨#[44, 32]⟩ w (fun j x hx => by
      rw [List.getElem?_map, Option.map_eq_some_iff] at hx
      obtain ⟨s, hs, rfl⟩ := hx
      rw [Nat.zero_add]
      exact hcells j s hs) hg (by simp; omega) (by simpa using hc) (by rw [hd]; show (join (l.map pickB) [44, 32]).length ≤ _; rw [hj]; omega)
  rw [List.length_map, hd] at h
  refine h.mono ?_
  rintro e w' ⟨rfl, hb⟩
  refine ⟨?_, hb⟩
  show Ending.returned (.string (str (join (l.map pickB) [44, 32]))) = _
  rw [hj]
set_option maxHeartbeats 4000000 in
set_option maxRecDepth 100000 in
theorem showP_any (l : List Pk) (A : Option Addr) (n c : Nat) (w : World) (h : PkOn w A n l) (hok : okP l = true) (hn : n ≤ 1000) (hT : TabsP w) :
    Calls Tryd.prog 20 #[.slice A n c] w fun e w' => e = .returned (.string (str (showB l))) ∧ Below w.heap.size w w' := by
  obtain ⟨i0, hi0, hz0, hz1, hz2⟩ := info_parts info_str
  have hll := h.len
  obtain ⟨hri, hall0⟩ := okP_iff.1 hok
  have hf1 : Fits1 l := fun q hq => (hall0 q hq).1
  have Hsz := hide (fun q (hq : q ∈ l) => show q.1.size ≤ 24 ∧ (str (txz q.2)).size ≤ 11 ∧ partP q = str (pickB q) from
    ⟨(name_plain (hall0 q hq).1).1, by rw [str_size, txz_ok (hall0 q hq).2]; exact (txt_len _).2, partP_eq (hall0 q hq).2⟩)
  have HC := hide (checkP_any l A n c w h (fun q hq => by have := (Hsz.out q hq).1; omega) (by omega) hT.1)
  rw [hok] at HC
  by_cases h0 : l = []
  · have hn0 : n = 0 := by rw [← hll, h0]; rfl
    subst hn0
    have e : str (showB l) = ⟨#[110, 111, 116, 104, 105, 110, 103]⟩ := by rw [h0]; rfl
    rw [e]
    clear e h0 hll hri hall0 hf1 Hsz hok
    go_enter Tryd.func20, Tryd.ntmps20
    go_wp2_with (go_at_call 7
                 refine HC.out.mono ?_
                 rintro e w1 ⟨rfl, hb1⟩)
    go_ret
    exact ⟨rfl, hb1⟩
  · have hn0 : ((n : Int) == 0) = false := beq_eq_false_iff_ne.2 fun e => h0 (List.eq_nil_of_length_eq_zero (by omega))
    have hmk := run_make_rowN (P := Tryd.prog) 46 9 i0 _ Tryd.underlying46 hi0 hz0 .i64 .i64 n n (Nat.le_refl _) (by rw [hz2]; omega) (by omega)
    rw [hz1] at hmk
    obtain ⟨M, HM⟩ : ∃ M, Hid (M = madeCells (Value.string ByteArray.empty).cells (n * 1)) := ⟨_, hide rfl⟩
    rw [← HM.out] at hmk
    have HMs : Hid (M.size = n) := hide (by rw [HM.out]; simp [size_madeCells])
    have HT := hide hT.1
    have Hll := hide hll
    have H0 := hide h0
    have Hf1 := hide hf1
    clear hT hok hri hall0 hf1 h0 hll
    go_enter Tryd.func20, Tryd.ntmps20
    go_wp2_with (go_at_call 7
                 refine HC.out.mono ?_
                 rintro e w3 ⟨rfl, hb13⟩
                 have hx3 := h.on hb13)
    have hx4 : PkIn w3 w3.heap.size A n l := hx3
    have hb14 : Below w3.heap.size w3 (w3.alloc (.cells M 9)) := alloc_b _ _
    have hbs3 := hb13.size
    have hM0 := Blk.new w3 9 M
    clear hx3 HC hmk h
    go_loopw [19] (fun x wr => ∃ (i : Nat) (cs : Array Value), i ≤ n ∧ x = .int .i64 (i : Int) ∧ Blk wr w3.heap.size 9 cs ∧ Hid (cs.size = n) ∧ Hid (∀ (k : Nat) q, k < i → l[k]? = some q → cs[k]? = some (.string (partP q))) ∧ Below w3.heap.size w3 wr) (fun x _ => n - (RowKit.intOf x).toNat)
    case atStart => exact ⟨0, M, by omega, rfl, hM0, HMs, hide (fun k s hk => absurd hk (by omega)), hb14⟩
    case round =>
      obtain ⟨i, cs, hi, rfl, hB, hcs, hall, hbq⟩ := hrel
      have hb := hb13.trans (hbq.mono hbs3)
      have hx := PkIn.below hx4 hbq
      clear hM0 hx4 hb14 HMs
      by_cases hlt : i < n
      · obtain ⟨ad, q, rfl, hbl, hq, p1, p2⟩ := PkIn.at_ hx hlt
        have hcsi : i < cs.size := by rw [hcs.out]; exact hlt
        obtain ⟨hz1', hz2', _⟩ := Hsz.out q (List.mem_of_getElem? hq)
        have hbs := hb.size
        have hglt := hB.lt
        have Hall := hide (fun (k : Nat) t (hk : k < i + 1) (ht : l[k]? = some t) => show (cs.setIfInBounds i (.string (partP q)))[k]? = some (.string (partP t)) by
          by_cases hki : k = i
          · subst hki
            rw [hq] at ht
            injection ht with ht
            subst ht
            simp [hcsi]
          · rw [Array.getElem?_setIfInBounds_ne (fun e => hki e.symm)]
            exact hall.out k t (by omega) ht)
        obtain ⟨v0, hv0⟩ : ∃ v, cs[i]? = some v := ⟨_, Array.getElem?_eq_getElem hcsi⟩
        obtain ⟨nm, v⟩ := q
        simp only [] at p1 p2 hz1' hz2'
        have hP : partP (nm, v) = nm ++ ⟨#[32]⟩ ++ str (txz v) := rfl
        have Hsh := hide (fun wx (hbx : Below wr.heap.size wr wx) => text_z v wx (HT.out.below (hb.trans (hbx.mono hbs))))
        rw [hP] at Hall
        clear hall hq hx hP
        generalize str (txz v) = sh at *
        go_upto_region 9 with fail
        obtain ⟨wq, hwq⟩ : ∃ wq, wq = wr.alloc (.cells #[.string nm, .int .i64 v] 24) := ⟨_, rfl⟩
        have hBq : Blk wq wr.heap.size 24 #[.string nm, .int .i64 v] := by rw [hwq]; exact Blk.new _ _ _
        have hB2 : Blk wq w3.heap.size 9 cs := by rw [hwq]; exact hB.alloc _
        have hbwq : Below wr.heap.size wr wq := by rw [hwq]; exact alloc_b _ _
        rw [← hwq]
        clear hwq
        have q1 := cell_at ((hBq.cell 0).trans (show (#[Value.string nm, .int .i64 v] : Array Value)[0]? = some (.string nm) from rfl)) hBq.lt
        have q2 := cell_at ((hBq.cell 1).trans (show (#[Value.string nm, .int .i64 v] : Array Value)[1]? = some (.int .i64 v) from rfl)) hBq.lt
        have hi1 : (0 : Int) ≤ (i : Int) := by omega
        have hi2 : (i : Int) < (n : Int) := by omega
        refine wp_region_grow_w [(31, isC (.string sh))] [31] 10 (fun w1 _ w2 => w2 = w1.setCell ⟨w3.heap.size, i, none⟩ (.string (nm ++ ⟨#[32]⟩ ++ sh))) _
          (by kernel_rfl) (by kernel_rfl) rfl (by kernel_rfl) (by kernel_rfl) (by kernel_rfl) rfl rfl (by kernel_rfl) (by kernel_rfl) ⟨isC_stable _, trivial⟩ ?_
        repeat (first
          | (refine lexK_skip (by decide) rfl ?_; simp only [Act.put, List.setIfInBounds_toArray, List.set_cons_zero, List.set_cons_succ])
          | (refine lexK_quiet (by decide) rfl rfl rfl (fun K hK => ?_); unfold Reg; go_big_quiet_op; refine hK _ ?_; clear hK K)
          | (refine lexK_rel (by decide) rfl rfl (fun w' hb9 hK => ?_) (fun v w' hb9 hv => ?_)
             · unfold grows
               go_simp
               go_at_call 30
               exact call_isC (Hsh.out w' (hbwq.trans (hb9.mono hbwq.size)))
             obtain rfl := hv
             simp only [Act.put, List.setIfInBounds_toArray, List.set_cons_zero, List.set_cons_succ])
          | (refine lexK_wr rfl rfl (fun w' hb9 hK => ?_) (fun v w' w'' hb9 hv => ?_)
             · have k0 := ((hB2.below hb9 hB2.lt).cell i).trans hv0
               have f0 := (hB2.below hb9 hB2.lt).frozen i
               unfold grows
               go_simp
               first | done | rfl
             simp only [Act.put]))
        refine lexK_nil (fun w9 w1 v hC9 hall9 hS _ => ?_)
        subst hS
        have hb9 := reg_iff.1 hC9
        clear hall9 q1 q2 hC9
        have hb01 := (hbq.trans (hbwq.mono hbq.size)).trans (hb9.mono (Nat.le_trans hbq.size hbwq.size))
        go_wp2
        go_roundw
        case rel => exact ⟨i + 1, cs.setIfInBounds i (.string (nm ++ ⟨#[32]⟩ ++ sh)), by omega, by go_num, (hB2.below hb9 hB2.lt).set_ i _, hide (by simpa using hcs.out), Hall, hb01.setCell (by simp) _⟩
        case measure => simp [RowKit.intOf]; omega
      · have hin : i = n := by omega
        subst hin
        have hj := hide (joinP_any w3.heap.size i l wr (fun j s hs => by
          rw [hB.cell, ← (Hsz.out s (List.mem_of_getElem? hs)).2.2]
          exact hall.out j s (by rw [← Hll.out]; exact (List.getElem?_eq_some_iff.1 hs).1) hs) hB.lt (by have := Hll.out; omega) (by have := Hll.out; omega) H0.out Hf1.out)
        rw [Hll.out] at hj
        clear hall hcs
        go_wp2_with (go_at_call 31
                     refine hj.out.mono ?_
                     rintro e w5 ⟨rfl, hb5⟩)
        go_ret
        exact ⟨rfl, hb.trans (hb5.mono hb.size)⟩
end Go.Proofs.YtnkcjemobljpdaaDoor.Pick
