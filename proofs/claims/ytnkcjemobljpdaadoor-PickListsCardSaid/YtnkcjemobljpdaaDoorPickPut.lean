/-
  Contracts of the program's Put and Drop. Condition: the names rise; no more than 10,000 picks, names of at most 1,000,000,000 bytes.
-/
import Derived.Test.YtnkcjemobljpdaaDoorPickFind
import Derived.Test.YtnkcjemobljpdaaDoorPickJoin
namespace Go.Proofs.YtnkcjemobljpdaaDoor.Pick
open Go Go.RowKit Go.Lib Go.Proofs.YtnkcjemobljpdaaDoor.Need
set_option linter.unusedVariables false
section
variable {W : World} {A1 A2 A3 : Option Addr} {n1 c1 n2 c2 n3 c3 : Nat} {l1 l2 l3 : List Pk}
theorem lsIn1 (T : TypeId) (g : Nat) (hg : g = W.heap.size) (h1 : PkOn W A1 n1 l1) : LsIn (W.alloc (.cells #[.slice A1 n1 c1] T)) (W.alloc (.cells #[.slice A1 n1 c1] T)).heap.size (some ⟨g, 0, none⟩) 1 [l1] := by
  subst hg
  have hb := alloc_b W (.cells #[.slice A1 n1 c1] T)
  refine ⟨rfl, fun _ => ⟨_, rfl, by simp, fun j p hp => ?_⟩⟩
  have hB := Blk.new W T #[.slice A1 n1 c1]
  rcases j with _ | j
  · simp at hp
    subst hp
    exact ⟨A1, n1, c1, by rw [add_zero']; exact (hB.cell 0).trans rfl, h1.on hb⟩
  · simp at hp
theorem lsIn2 (T : TypeId) (g : Nat) (hg : g = W.heap.size) (h1 : PkOn W A1 n1 l1) (h2 : PkOn W A2 n2 l2) : LsIn (W.alloc (.cells #[.slice A1 n1 c1, .slice A2 n2 c2] T)) (W.alloc (.cells #[.slice A1 n1 c1, .slice A2 n2 c2] T)).heap.size (some ⟨g, 0, none⟩) 2 [l1, l2] := by
  subst hg
  have hb := alloc_b W (.cells #[.slice A1 n1 c1, .slice A2 n2 c2] T)
  refine ⟨rfl, fun _ => ⟨_, rfl, by simp, fun j p hp => ?_⟩⟩
  have hB := Blk.new W T #[.slice A1 n1 c1, .slice A2 n2 c2]
  rcases j with _ | _ | j
  · simp at hp
    subst hp
    exact ⟨A1, n1, c1, by rw [add_zero']; exact (hB.cell 0).trans rfl, h1.on hb⟩
  · simp at hp
    subst hp
    exact ⟨A2, n2, c2, (hB.cell 1).trans rfl, h2.on hb⟩
  · simp at hp
theorem lsIn3 (T : TypeId) (g : Nat) (hg : g = W.heap.size) (h1 : PkOn W A1 n1 l1) (h2 : PkOn W A2 n2 l2) (h3 : PkOn W A3 n3 l3) : LsIn (W.alloc (.cells #[.slice A1 n1 c1, .slice A2 n2 c2, .slice A3 n3 c3] T)) (W.alloc (.cells #[.slice A1 n1 c1, .slice A2 n2 c2, .slice A3 n3 c3] T)).heap.size (some ⟨g, 0, none⟩) 3 [l1, l2, l3] := by
  subst hg
  have hb := alloc_b W (.cells #[.slice A1 n1 c1, .slice A2 n2 c2, .slice A3 n3 c3] T)
  refine ⟨rfl, fun _ => ⟨_, rfl, by simp, fun j p hp => ?_⟩⟩
  have hB := Blk.new W T #[.slice A1 n1 c1, .slice A2 n2 c2, .slice A3 n3 c3]
  rcases j with _ | _ | _ | j
  · simp at hp
    subst hp
    exact ⟨A1, n1, c1, by rw [add_zero']; exact (hB.cell 0).trans rfl, h1.on hb⟩
  · simp at hp
    subst hp
    exact ⟨A2, n2, c2, (hB.cell 1).trans rfl, h2.on hb⟩
  · simp at hp
    subst hp
    exact ⟨A3, n3, c3, (hB.cell 2).trans rfl, h3.on hb⟩
  · simp at hp
end
theorem getP_here {l : List Pk} (hr : RisesP l) (nm : ByteArray) (h : (getP l nm).isSome = true) : fidx l nm < l.length := by
  have hg := fidx_get hr nm
  cases hx : l[fidx l nm]? with
  | none => rw [hx] at hg; rw [hg] at h; cases h
  | some q => exact (List.getElem?_eq_some_iff.1 hx).1
set_option maxHeartbeats 4000000 in
set_option maxRecDepth 100000 in
theorem putPk_any (l : List Pk) (pn : ByteArray) (pv : Int) (A : Option Addr) (n c : Nat) (w : World) (h : PkOn w A n l) (hr : RisesP l) (hc : n ≤ c) (hcm : c ≤ 9223372036854775807) (hl : ∀ q ∈ l, q.1.size ≤ 1000000000) (hpn : pn.size ≤ 1000000000) (hn : n ≤ 10000) :
    Calls Tryd.prog 17 #[.slice A n c, .agg #[.string pn, .int .i64 pv]] w (MakesP w (putP l (pn, pv))) := by
  have hlen := h.len
  have hfl := fidx_le l pn
  have HF := hide (fun wx (hbx : Below w.heap.size w wx) => find_any l pn A n c wx (h.on hbx) hr (by omega))
  have HR : Hid (putP l (pn, pv) = l.take (fidx l pn) ++ ([(pn, pv)] ++ l.drop (nidx l pn))) := hide (put_fidx hr (pn, pv))
  have hne : Hid ((getP l pn).isSome = true → fidx l pn < n) := hide (fun e => by have := getP_here hr pn e; omega)
  unfold nidx at HR
  rw [hlen] at hfl
  generalize putP l (pn, pv) = R at *
  generalize fidx l pn = f at *
  generalize (getP l pn).isSome = b at *
  have HJ := hide (fun (wx : World) (Ax : Option Addr) (k : Nat) (hx : LsIn wx wx.heap.size Ax 3 [l.take f, [(pn, pv)], l.drop k]) => join_any [l.take f, [(pn, pv)], l.drop k] Ax 3 3 wx hx
    (fun p hp q hq => by
      simp only [List.mem_cons, List.not_mem_nil, or_false] at hp
      rcases hp with rfl | rfl | rfl
      · exact hl q (List.mem_of_mem_take hq)
      · rw [List.mem_singleton.1 hq]; exact hpn
      · exact hl q (List.mem_of_mem_drop hq)) (by omega) (by simp; omega))
  have Hlen := hide hlen
  clear hlen hl hpn hr
  have i1 : (0 : Int) ≤ (f : Int) := by omega
  have i2 : (f : Int) ≤ (n : Int) := by omega
  have i3 : (n : Int) ≤ (c : Int) := by omega
  have i4 : (f : Int) ≤ (c : Int) := by omega
  go_enter Tryd.func17, Tryd.ntmps17
  go_upto_region 2 with (first
    | (go_at_call 24
       refine (HF.out _ (alloc_b w (.cells #[.string pn, .int .i64 pv] 24))).mono ?_
       rintro e w1 ⟨rfl, k, rfl⟩))
  go_quiet (fail)
  obtain ⟨W, hW⟩ : ∃ W, W = ((w.alloc (.cells #[.string pn, .int .i64 pv] 24)).drewN k).drewN nq := ⟨_, rfl⟩
  have hbW : Below w.heap.size w W := by rw [hW]; exact below_drewN (below_drewN (alloc_b _ _) _) _
  have hB : Blk W w.heap.size 24 #[.string pn, .int .i64 pv] := by rw [hW]; exact ((Blk.new w _ _).drewN _).drewN _
  rw [← hW]
  clear hW
  have hA := (PkIn.take h (by omega : f ≤ n)).below hbW |>.more hbW.size
  have h9 := ((PkIn.cut h (by omega : f ≤ n) hc).below hbW).more hbW.size
  obtain ⟨A9, hA9⟩ : ∃ A9, A9 = (if c = f then A else Option.map (fun x => x.add (f * 2)) A) := ⟨_, rfl⟩
  obtain ⟨n9, hn9⟩ : ∃ n9, n9 = n - f := ⟨_, rfl⟩
  obtain ⟨c9, hc9⟩ : ∃ c9, c9 = c - f := ⟨_, rfl⟩
  rw [← hA9, ← hn9] at h9
  rw [← hA9, ← hn9, ← hc9]
  have hnc9 : n9 ≤ c9 := by omega
  have hcm9 : c9 ≤ 9223372036854775807 := by omega
  have hne9 : Hid (b = true → 1 ≤ n9) := hide (fun e => by have := hne.out e; omega)
  have hn92 : n9 ≤ 10000 := by omega
  have hfn : f ≤ 10000 := by omega
  clear hA9 hn9 hc9 hne HF i1 i2 i3 i4 h hfl
  have k0 : W.cell? ⟨w.heap.size, 0, none⟩ = some (.string pn) := (hB.cell 0).trans rfl
  have k1 : W.cell? ⟨w.heap.size, 1, none⟩ = some (.int .i64 pv) := (hB.cell 1).trans rfl
  cases b with
  | true =>
    have h1n := hne9.out rfl
    have h10 : PkOn W (if c9 = 1 then A9 else Option.map (fun x => x.add 2) A9) (n9 - 1) (l.drop (f + 1)) := by
      have := PkIn.cut h9 (k := 1) h1n hnc9
      rw [List.drop_drop] at this
      exact this
    go_upto_region 5 with fail
    obtain ⟨A10, hA10⟩ : ∃ A10, A10 = (if c9 = 1 then A9 else Option.map (fun x => (⟨x.block, x.off + 2, none⟩ : Addr)) A9) := ⟨_, rfl⟩
    have h11 : PkOn W A10 (n9 - 1) (l.drop (f + 1)) := by rw [hA10]; exact h10
    obtain ⟨n10, hn10⟩ : ∃ n10, n10 = n9 - 1 := ⟨_, rfl⟩
    obtain ⟨c10, hc10⟩ : ∃ c10, c10 = c9 - 1 := ⟨_, rfl⟩
    rw [← hA10, ← hn10, ← hc10]
    rw [← hn10] at h11
    clear hA10 hn10 hc10 h10
    go_wp2_with (first
      | (go_at_call 25
         refine (HJ.out _ _ (f + 1) (lsIn3 _ _ ?_ ?_ ?_ ?_)).mono ?_
         · simp
         · exact PkOn.on hA (alloc_b W _)
         · exact (reads_pick W pn pv _ rfl).more (by simp)
         · exact PkOn.on h11 (alloc_b W _)
         rintro e w5 ⟨A5, n5, c5, rfl, hN5, hb5⟩))
    go_ret
    refine ⟨A5, n5, c5, rfl, ?_, hbW.trans (((alloc_b W _).alloc (by simp) _ |>.trans (hb5.mono (by simp; omega))).mono hbW.size)⟩
    rw [HR.out]
    simpa using hN5
  | false =>
    go_wp2_with (first
      | (go_at_call 25
         refine (HJ.out _ _ f (lsIn3 _ _ ?_ ?_ ?_ ?_)).mono ?_
         · simp
         · exact PkOn.on hA (alloc_b W _)
         · exact (reads_pick W pn pv _ rfl).more (by simp)
         · exact PkOn.on h9 (alloc_b W _)
         rintro e w5 ⟨A5, n5, c5, rfl, hN5, hb5⟩))
    go_ret
    refine ⟨A5, n5, c5, rfl, ?_, hbW.trans (((alloc_b W _).alloc (by simp) _ |>.trans (hb5.mono (by simp; omega))).mono hbW.size)⟩
    rw [HR.out]
    simpa using hN5
end Go.Proofs.YtnkcjemobljpdaaDoor.Pick
