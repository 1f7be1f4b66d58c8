/-
  Some texts of this claim, one behind the other: NeedShow. What each proves, and its condition, stands at its head.
-/
import Derived.Test.YtmcpdcfeappokaaGreatDoorZ12
import Derived.Test.YtmcpdcfeappokaaGreatDoorZ36
import Derived.Test.YtmcpdcfeappokaaGreatDoorZ15
import Derived.Test.YtmcpdcfeappokaaGreatDoorZ9
/-
  The contract of Show, of needs that may be. Condition: what is written has at most 1,000,000 bytes; the tables hold what the texts lay in them.
-/
namespace Go.Proofs.YtmcpdcfeappokaaGreatDoor.Need
open Go Go.RowKit Go.Lib Go.Shelf Go.Proofs.YtmcpdcfeappokaaGreatDoor.Span Go.Proofs.YtmcpdcfeappokaaGreatDoor.Grow
open Go.Proofs.YtmcpdcfeappokaaGreatDoor.Ver (Tabs)
open Go.Proofs.YtmcpdcfeappokaaGreatDoor.Rule (showL Show_any laysJ extraJ info_str)
set_option linter.unusedVariables false
/-- How a need is written. -/
def partB (q : Nd) : ByteArray := q.1 ++ ⟨#[32]⟩ ++ str (showL q.2)
def joinB (l : List Nd) : List UInt8 := join (l.map fun q => (partB q).data.toList) [59, 32]
theorem joinB_any (g c : Nat) (l : List Nd) (w : World) (hcells : ∀ (j : Nat) q, l[j]? = some q → w.cell? ⟨g, j, none⟩ = some (.string (partB q))) (hg : g < w.heap.size) (hc : l.length ≤ c) (hl : l.length ≤ 1000000) (hlen : (joinB l).length ≤ 1000000) :
    Calls Tryz.prog 38 #[.slice (some ⟨g, 0, none⟩) l.length c, .string ⟨#[59, 32]⟩] w fun e w' => e = .returned (.string (str (joinB l))) ∧ Below w.heap.size w w' := by
  have hd : (l.map partB).map (·.data.toList) = l.map fun q => (partB q).data.toList := by rw [List.map_map]; rfl
  have h := Any.strings_Join laysJ extraJ g 0 c (l.map partB) ⟨#[59, 32]⟩ w (fun j x hx => by
      rw [List.getElem?_map, Option.map_eq_some_iff] at hx
      obtain ⟨s, hs, rfl⟩ := hx
      rw [Nat.zero_add]
      exact hcells j s hs) hg (by simp; omega) (by simpa using hc) (by rw [hd]; show (joinB l).length ≤ _; omega)
  rw [List.length_map, hd] at h
  refine h.mono ?_
  rintro e w' ⟨rfl, hb⟩
  exact ⟨rfl, hb⟩
set_option maxHeartbeats 4000000 in
set_option maxRecDepth 100000 in
theorem showN_any (l : List Nd) (A : Option Addr) (n c : Nat) (w : World) (h : NdOn w A n l) (hok : okS l = true) (hlen : (joinB l).length ≤ 1000000) (hsh : ∀ q ∈ l, (showL q.2).length ≤ 100000) (hT : Tabs w) :
    Calls Tryz.prog 18 #[.slice A n c] w (Tells w (.string (str (joinB l)))) := by
  unfold Tells
  obtain ⟨i0, hi0, hz0, hz1, hz2⟩ := info_parts info_str
  have hll := h.len
  obtain ⟨ho, hn6, _, hsets⟩ := okS_parts hok
  have hN : Names l := fun q hq => ⟨by have := Label.fit_small q.1 (ok_all ho q hq).2.1; omega, by have := (hsets q hq).2; omega⟩
  have Hsz := hide (fun q (hq : q ∈ l) => show q.1.size ≤ 48 ∧ (str (showL q.2)).size ≤ 100000 from ⟨Label.fit_small q.1 (ok_all ho q hq).2.1, by rw [str_size]; exact hsh q hq⟩)
  clear hsh
  have HC := hide (checkN_any l A n c w h hN (by omega))
  rw [hok] at HC
  have hmk := run_make_rowN (P := Tryz.prog) 60 9 i0 _ Tryz.underlying60 hi0 hz0 .i64 .i64 n n (Nat.le_refl _) (by rw [hz2]; omega) (by omega)
  rw [hz1] at hmk
  obtain ⟨M, HM⟩ : ∃ M, Hid (M = madeCells (Value.string ByteArray.empty).cells (n * 1)) := ⟨_, hide rfl⟩
  rw [← HM.out] at hmk
  have HMs : Hid (M.size = n) := hide (by rw [HM.out]; simp [size_madeCells])
  have HT := hide hT
  have Hll := hide hll
  have Hsets := hide hsets
  have hn6' : n ≤ 6 := by omega
  clear hT hok ho hN hll hsets
  go_enter Tryz.func18, Tryz.ntmps18
  go_wp2_with (go_at_call 9
               refine HC.out.mono ?_
               rintro e w3 ⟨rfl, hb13⟩
               have hx3 := h.on hb13)
  have hx4 : NdIn w3 w3.heap.size A n l := hx3
  have hb14 : Below w3.heap.size w3 (w3.alloc (.cells M 9)) := alloc_b _
  have hbs3 := hb13.size
  have hM0 := Blk.new w3 9 M
  clear hx3 HC hmk h
  go_loopw [14] (fun x wr => ∃ (i : Nat) (cs : Array Value), i ≤ n ∧ x = .int .i64 (i : Int) ∧ Blk wr w3.heap.size 9 cs ∧ Hid (cs.size = n) ∧ Hid (∀ (k : Nat) q, k < i → l[k]? = some q → cs[k]? = some (.string (partB q))) ∧ Below w3.heap.size w3 wr) (fun x _ => n - (RowKit.intOf x).toNat)
  case atStart => exact ⟨0, M, by omega, rfl, hM0, HMs, hide (fun k s hk => absurd hk (by omega)), hb14⟩
  case round =>
    obtain ⟨i, cs, hi, rfl, hB, hcs, hall, hbq⟩ := hrel
    have hb := hb13.trans (hbq.mono hbs3)
    have hx := hx4.below hbq
    clear hM0 hx4 hb14 HMs
    by_cases hlt : i < n
    · obtain ⟨ad, q, A', n', c', rfl, hbl, hq, hs, p1, p2⟩ := hx.at_ hlt
      have hcsi : i < cs.size := by rw [hcs.out]; exact hlt
      have hset := Hsets.out q (List.mem_of_getElem? hq)
      obtain ⟨hz1', hz2'⟩ := Hsz.out q (List.mem_of_getElem? hq)
      have hbs := hb.size
      have hglt := hB.lt
      have Hall := hide (fun (k : Nat) t (hk : k < i + 1) (ht : l[k]? = some t) => show (cs.setIfInBounds i (.string (partB q)))[k]? = some (.string (partB t)) by
        by_cases hki : k = i
        · subst hki
          rw [hq] at ht
          injection ht with ht
          subst ht
          simp [hcsi]
        · rw [Array.getElem?_setIfInBounds_ne (fun e => hki e.symm)]
          exact hall.out k t (by omega) ht)
      obtain ⟨v0, hv0⟩ : ∃ v, cs[i]? = some v := ⟨_, Array.getElem?_eq_getElem hcsi⟩
      obtain ⟨nm, s⟩ := q
      simp only [] at p1 p2 hs hset hz1' hz2'
      have hsl := hs.1
      have hP : partB (nm, s) = nm ++ ⟨#[32]⟩ ++ str (showL s) := rfl
      have Hsh := hide (fun wx (hbx : Below wr.heap.size wr wx) => Show_any s A' n' c' wx ((hs.below (hbx.mono hbq.size)).more (Nat.le_trans hbq.size hbx.size)) (by omega) (HT.out.below (hb.trans (hbx.mono hbs))))
      unfold Tells at Hsh
      rw [hP] at Hall
      clear hall hq hs hset hx hsl hP
      generalize str (showL s) = sh at *
      go_upto_region 7 with fail
      obtain ⟨wq, hwq⟩ : ∃ wq, wq = wr.alloc (.cells #[.string nm, .slice A' n' c'] 33) := ⟨_, rfl⟩
      have hBq : Blk wq wr.heap.size 33 #[.string nm, .slice A' n' c'] := by rw [hwq]; exact Blk.new _ _ _
      have hB2 : Blk wq w3.heap.size 9 cs := by rw [hwq]; exact hB.alloc _
      have hbwq : Below wr.heap.size wr wq := by rw [hwq]; exact alloc_b _
      rw [← hwq]
      clear hwq
      have q1 := cell_reg_ ((hBq.cell 0).trans (show (#[Value.string nm, .slice A' n' c'] : Array Value)[0]? = some (.string nm) from rfl)) hBq.lt
      have q2 := cell_reg_ ((hBq.cell 1).trans (show (#[Value.string nm, .slice A' n' c'] : Array Value)[1]? = some (.slice A' n' c') from rfl)) hBq.lt
      have hi1 : (0 : Int) ≤ (i : Int) := by omega
      have hi2 : (i : Int) < (n : Int) := by omega
      refine wp_region_grow_w [(26, isC (.string sh))] [26] 10 (fun w1 _ w2 => w2 = w1.setCell ⟨w3.heap.size, i, none⟩ (.string (nm ++ ⟨#[32]⟩ ++ sh))) _
        (by kernel_rfl) (by kernel_rfl) rfl (by kernel_rfl) (by kernel_rfl) (by kernel_rfl) rfl rfl (by kernel_rfl) (by kernel_rfl) ⟨isC_stable _, trivial⟩ ?_
      repeat (first
        | (refine lexK_skip (by decide) rfl ?_; simp only [Act.put, List.setIfInBounds_toArray, List.set_cons_zero, List.set_cons_succ])
        | (refine lexK_quiet (by decide) rfl rfl rfl (fun K hK => ?_); unfold Reg; go_big_quiet_op; refine hK _ ?_; clear hK K)
        | (refine lexK_rel (by decide) rfl rfl (fun w' hb9 hK => ?_) (fun v w' hb9 hv => ?_)
           · unfold grows
             go_simp
             go_at_call 37
             exact call_isC (Hsh.out w' (hbwq.trans (hb9.mono hbwq.size)))
           obtain rfl := hv
           simp only [Act.put, List.setIfInBounds_toArray, List.set_cons_zero, List.set_cons_succ])
        | (refine lexK_wr rfl rfl (fun w' hb9 hK => ?_) (fun v w' w'' hb9 hv => ?_)
           · have k0 := ((hB2.below hb9 hB2.lt).cell i).trans hv0
             have f0 := (hB2.below hb9 hB2.lt).frozen i
             unfold grows
             go_simp
             first | done | rfl
           simp only [Act.put]))
      refine lexK_nil (fun w9 w1 v hC9 hall9 hS _ => ?_)
      subst hS
      have hb9 := reg_iff.1 hC9
      clear hall9 q1 q2 hC9
      have hb01 := (hbq.trans (hbwq.mono hbq.size)).trans (hb9.mono (Nat.le_trans hbq.size hbwq.size))
      go_wp2
      go_roundw
      case rel => exact ⟨i + 1, cs.setIfInBounds i (.string (nm ++ ⟨#[32]⟩ ++ sh)), by omega, by go_num, (hB2.below hb9 hB2.lt).set_ i _, hide (by simpa using hcs.out), Hall, hb01.setCell (by simp) _⟩
      case measure => simp [RowKit.intOf]; omega
    · have hin : i = n := by omega
      subst hin
      have hj := hide (joinB_any w3.heap.size i l wr (fun j s hs => by
        rw [hB.cell]
        exact hall.out j s (by rw [← Hll.out]; exact (List.getElem?_eq_some_iff.1 hs).1) hs) hB.lt (by have := Hll.out; omega) (by have := Hll.out; omega) hlen)
      rw [Hll.out] at hj
      clear hall hcs
      go_wp2_with (go_at_call 38
                   refine hj.out.mono ?_
                   rintro e w5 ⟨rfl, hb5⟩)
      go_ret
      exact ⟨rfl, hb.trans (hb5.mono hb.size)⟩
end Go.Proofs.YtmcpdcfeappokaaGreatDoor.Need
