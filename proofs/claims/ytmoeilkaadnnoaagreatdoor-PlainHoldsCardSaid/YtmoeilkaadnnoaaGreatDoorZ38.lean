/-
  Some texts of this claim, one behind the other: ReachNames, ReachMissing, ReachGrowsM. What each proves, and its condition, stands at its head.
-/
import Derived.Test.YtmoeilkaadnnoaaGreatDoorZ33
import Derived.Test.YtmoeilkaadnnoaaGreatDoorZ37
import Derived.Test.YtmoeilkaadnnoaaGreatDoorZ36
/-
  The contract of the program's Names, over whatever tells what is known (an index, or nil): what may be needed. Condition: as many names as may be walked.
-/
namespace Go.Proofs.YtmoeilkaadnnoaaGreatDoor.Reach
open Go Go.RowKit Go.Lib Go.Sort Go.Proofs.YtmoeilkaadnnoaaGreatDoor.Span Go.Proofs.YtmoeilkaadnnoaaGreatDoor.Need Go.Proofs.YtmoeilkaadnnoaaGreatDoor.Mani Go.Proofs.YtmoeilkaadnnoaaGreatDoor.Wire Go.Proofs.YtmoeilkaadnnoaaGreatDoor.Depot Go.Proofs.YtmoeilkaadnnoaaGreatDoor.Index
set_option linter.unusedVariables false
theorem slice3 (A : Option Addr) (n c k N : Nat) (w : World) (h1 : k ≤ N) (h2 : N ≤ c) (i : TypeInfo) (hi : Tryz.prog.info? 9 = some i) (hz : i.size = 1) :
    (Instr.slice 36 (.slice A n c) (some (.int .i64 (k : Int))) (some (.int .i64 (N : Int))) (some (.int .i64 (N : Int)))).run Tryz.prog w = .ok (.slice (if N = k then A else A.map (·.add (k * 1))) (N - k) (N - k)) w := by
  have s0 : (0 : Int) ≤ (k : Int) := by omega
  have s1 : (k : Int) ≤ (N : Int) := by omega
  have s2 : (N : Int) ≤ (c : Int) := by omega
  have s3 : (0 : Int) ≤ (N : Int) := by omega
  simp [Instr.slice, run_underlying Tryz.underlying36, Instr.sliceBounds, run_sliceBound, sizeOf, typeInfo, hi, hz, s0, s1, s2, s3]
/-- What an index's Get and Has tell, in every world behind. -/
def TellsX (w : World) (pv : Value) (X : List Kn) : Prop := ∀ (nm : ByteArray) (wx : World), Below w.heap.size w wx → nm.size ≤ 1000000000 →
  Calls Tryz.prog 36 #[pv, .string nm] wx (Gots wx nm (getX X nm)) ∧
  Calls Tryz.prog 23 #[pv, .string nm] wx fun e w' => e = .returned (.bool (atX X nm).isSome) ∧ wx = w'
theorem TellsX.on {w w' : World} {pv : Value} {X : List Kn} (h : TellsX w pv X) (hb : Below w.heap.size w w') : TellsX w' pv X := fun nm wx hx hn => h nm wx (hb.trans (hx.mono hb.size)) hn
theorem tells_nil (w : World) : TellsX w (.pointer none) [] := fun nm wx _ hn => ⟨get_nil nm wx hn, has_nil nm wx⟩
theorem tells_idx {w : World} {B g : Nat} {X : List Kn} (h : IdxB w B g X) (hf : FineX X) : TellsX w (.pointer (some ⟨g, 0, none⟩)) X := fun nm wx hx hn => by
  obtain ⟨_, mo, h2, _⟩ := h
  exact ⟨get_any g mo X nm wx (h2.below hx) hf hn, has_any g mo X nm wx (h2.below hx) hn⟩
theorem tcs_drop (l : List ByteArray) (k : Nat) : (tcs l).drop k = tcs (l.drop k) := by simp [tcs]
set_option maxHeartbeats 8000000 in
set_option maxRecDepth 100000 in
theorem reachNames_any (X : List Kn) (root : List Nd) (pv : Value) (A : Option Addr) (n c : Nat) (w : World) (hX : TellsX w pv X) (hf : FineX X) (hXl : X.length ≤ 100) (h : NdOn w A n root) (hn : n ≤ 40) (hr : ∀ q ∈ root, q.1.size ≤ 100) :
    Calls Tryz.prog 22 #[pv, .slice A n c] w (MakesT w (reachX X root)) := by
  unfold MakesT
  obtain ⟨i0, hi0, hz0, hz1, hz2⟩ := info_parts info_str
  have hrl : root.length ≤ 40 := by rw [h.len]; exact hn
  have Hal := hide (allX_len (root := root) hf hrl)
  have Hms := hide (fun (z : ByteArray) (hz : May X root z) => may_short hf hr hz)
  have Haf := hide (fun (a : ByteArray) => asksF_len hf a)
  have HA := hide (fun (wx : World) (hb : Below w.heap.size w wx) => asked_any root A n c wx (h.on hb) (by omega) (fun q hq => by have := hr q hq; omega))
  unfold MakesT at HA
  have Hgf := hide (fun (a : ByteArray) => asks_fine hf a)
  have hsr : ShortN (namesS root) := fun x hx => by
    have := Hms.out x (.root hx)
    omega
  have hnl : (namesS root).length ≤ 40 := by unfold namesS; rw [List.length_map]; exact hrl
  have HF0 := hide (fun (Ax : Option Addr) (nx cx : Nat) (wx : World) (hM : OwnF wx w.heap.size []) (hT : TxOn wx Ax nx (namesS root)) (hx : nx ≤ 1000000) => fresh_any [] (namesS root) w.heap.size Ax nx cx wx hM hT hx (by simp) hsr)
  unfold Freshes at HF0
  have Hst := hide (bfs_start X root)
  have hmm := @run_makeMap Tryz.prog
  have m0 : OwnF (w.alloc (.map #[] 0)) w.heap.size [] := World.ownsMap_made w Tryz.prog 9 (unitElem (H := Unit))
  have hbm : Below w.heap.size w (w.alloc (.map #[] 0)) := alloc_b _
  clear h hf hn hr hsr hrl
  go_enter Tryz.func22, Tryz.ntmps22
  go_wp2_with (first
    | (go_at_call 35
       refine (HA.out _ hbm).mono ?_
       rintro e w1 ⟨A1, n1, c1, rfl, hT1, hb1⟩
       have hn1 : n1 ≤ 40 := by rw [← hT1.len]; exact hnl
       have hM1 := m0.kept (only_of_below hb1 none) (by simp)
       have hbw1 := hbm.trans (hb1.mono (by simp))
       have hbs1 := hb1.size)
    | (go_at_call 34
       refine (HF0.out _ _ _ _ hM1 hT1 (by omega)).mono ?_
       rintro e w2 ⟨v2, rfl, hown2, hM2, hg2⟩))
  have hbs1' : w.heap.size + 1 ≤ w1.heap.size := by simpa using hbs1
  have hbw2 : Below w.heap.size w w2 := hbw1.grown hg2 hbw1.size (fun k hk => by injection hk with hk; omega)
  have hown2' := own_less hown2 hbs1'
  obtain ⟨A2, c2, rfl, hc2, hT2⟩ := own_texts hown2'
  generalize hL0 : newF [] (namesS root) = L0 at *
  have hM2' : OwnF w2 w.heap.size L0 := by simpa using hM2
  clear hmm m0 hbm hT1 hM1 hg2 hM2 hown2 HF0 HA hbs1 hbs1' hbw1
  go_loopw [6, 7, 8] (fun u t v wr => ∃ (d : Nat) (L : List ByteArray) (At : Option Addr) (nt ct : Nat), v = .int .i64 ((d : Int) + 1) ∧ t = .slice At nt ct ∧ d ≤ L.length ∧ Bfs X root L d ∧ wr.ownsRow (w.heap.size + 1) 9 1 u L.length (tcs L) ∧ TxOn wr At nt (L.drop d) ∧ OwnF wr w.heap.size L ∧ Below w.heap.size w wr) (fun _ _ v _ => (allX X root).length + 1 - (RowKit.intOf v).toNat)
  case atStart => exact ⟨0, L0, A2, L0.length, c2, rfl, rfl, by omega, Hst.out, hown2', hT2, hM2', hbw2⟩
  case round =>
    obtain ⟨d, L, At, nt, ct, rfl, rfl, hd, hB, hown, hT, hM, hb⟩ := hrel
    have hbs := hb.size
    have hLen := hB.len
    have hal := Hal.out
    have htl := hT.len
    rw [List.length_drop] at htl
    clear hown2' hT2 hM2' hbw2 Hst hc2
    by_cases hlt : d < L.length
    · obtain ⟨a, ha⟩ : ∃ a, L[d]? = some a := ⟨_, List.getElem?_eq_getElem hlt⟩
      obtain ⟨ad, z, rfl, had, hz, hc⟩ := tcs_at hT (k := 0) (by omega)
      have hza : z = a := by
        rw [List.getElem?_drop] at hz
        rw [Nat.add_zero, ha] at hz
        injection hz with hz
        exact hz.symm
      subst hza
      have hsz := Hms.out z (hB.may z (List.mem_of_getElem? ha))
      have HG := hide (hX z wr hb (by omega)).1
      have HN := hide (fun (Ax : Option Addr) (nx cx : Nat) (wx : World) (hx : RlOn wx Ax nx (getX X z).1) => namesM_any z (getX X z).1 Ax nx cx wx hx (Hgf.out z))
      have hsh : ShortN (asksF X z) := fun x hx => by
        have := Hms.out x (.ask (hB.may z (List.mem_of_getElem? ha)) ((foldN_mem _).1 hx))
        omega
      have haf := Haf.out z
      have HF := hide (fun (Ax : Option Addr) (nx cx : Nat) (wx : World) (hM : OwnF wx w.heap.size L) (hT : TxOn wx Ax nx (asksF X z)) (hx : nx ≤ 1000000) => fresh_any L (asksF X z) w.heap.size Ax nx cx wx hM hT hx (by omega) hsh)
      unfold Gots at HG
      unfold MakesT at HN
      unfold Freshes at HF
      have hst := hide (hB.step ha)
      have hnl2 := newF_len L (asksF X z)
      have hnt : (0 : Int) < (nt : Int) := by omega
      have hnt2 : 0 < nt := by omega
      obtain ⟨Al, cl, rfl, hcl, _⟩ := own_texts hown
      have hc0 : wr.cell? ad = some (.string z) := hc
      clear hz ha hsh hT hB hc
      go_upto_region 9 with (first
        | (go_at_call 36
           refine HG.out.mono ?_
           rintro e w3 ⟨A3, n3, c3, B3, rs3, rfl, hR3, hb3⟩
           have hR3' : RlOn (w3.alloc (.cells #[.string z, .slice A3 n3 c3] 83)) A3 n3 (getX X z).1 := (hR3.below (alloc_b _)).on
           have hbx3 := hb3.trans ((alloc_b (w := w3) (.cells #[.string z, .slice A3 n3 c3] 83)).mono hb3.size))
        | (go_at_call 37
           refine (HN.out _ _ _ _ hR3').mono ?_
           rintro e w4 ⟨A4, n4, c4, rfl, hT4, hb4⟩
           have hbx4 := hbx3.trans (hb4.mono hbx3.size)
           have hM4 := hM.kept (only_of_below hbx4 none) (by simp)
           have hown4 := own_below hown hbx4
           have hn4 : n4 ≤ 1200 := by rw [← hT4.len]; exact haf
           have hbw4 := hb.trans (hbx4.mono hbs)
           have hbw4s := hbw4.size)
        | (go_at_call 34
           refine (HF.out _ _ _ _ hM4 hT4 (by omega)).mono ?_
           rintro e w5 ⟨v5, rfl, hown5, hM5, hg5⟩
           have hown5l := own_far hown4 (farT_set _ hM4) hg5
           have hbw5 : Below w.heap.size w w5 := hbw4.grown hg5 hbw4s (fun k hk => by injection hk with hk; omega)
           have hbw5s := hbw5.size
           obtain ⟨A5, c5, rfl, hc5, hT5⟩ := own_texts hown5)
        | (at_builtin
           refine wpList_append_any _ rfl _ _ _ rfl (w.heap.size + 1) 9 i0 _ 1 16 Tryz.underlying36 hi0 hz0 hz1 hz2 rfl (by omega) _ L.length (tcs L) rfl hown5l _ _ _ _ _ rfl hT5 (by intro u hu; obtain ⟨y, _, rfl⟩ := List.mem_map.1 hu; rfl) (by unfold maxLen; omega) (by omega) (by have := hM5.lt; omega) ?_
           intro v6 w6 hown6 hg6 _))
      obtain ⟨N, hN⟩ : ∃ N, N = L.length + (newF L (asksF X z)).length := ⟨_, rfl⟩
      have HNl := hide (show (L ++ newF L (asksF X z)).length = N by rw [List.length_append, hN])
      rw [← hN] at hown6
      clear hN
      obtain ⟨A6, c6, rfl, hc6, hT6⟩ := own_texts (L := L ++ newF L (asksF X z)) (by rw [tcs_append]; exact hown6)
      have hNd : d + 1 ≤ N := by have := HNl.out; rw [List.length_append] at this; omega
      have hNb : N ≤ 1000000 := by have := HNl.out; rw [List.length_append] at this; omega
      have hM6 : OwnF w6 w.heap.size (L ++ newF L (asksF X z)) := hM5.kept hg6 (row_ne_low hown5l (by omega))
      have hbw6 : Below w.heap.size w w6 := hbw5.grown hg6 hbw5s (fun k hk => by have := (hown5l.lt k hk).1; omega)
      have hcut := hide (Reads.cut (cap := N) hT6 hNd (Nat.le_refl _))
      have s1 : (0 : Int) ≤ (d : Int) + 1 := by omega
      have s2 : (d : Int) + 1 ≤ (N : Int) := by omega
      have s3 : (N : Int) ≤ (c6 : Int) := by omega
      have hts : ∀ wx : World, (Instr.slice 36 (.slice A6 N c6) (some (.int .i64 ((d : Int) + 1))) (some (.int .i64 (N : Int))) (some (.int .i64 (N : Int)))).run Tryz.prog wx = .ok (.slice (if N = d + 1 then A6 else A6.map (·.add ((d + 1) * 1))) (N - (d + 1)) (N - (d + 1))) wx := fun wx => slice3 A6 N c6 (d + 1) N wx hNd hc6 i0 hi0 hz1
      generalize (if N = d + 1 then A6 else A6.map (·.add ((d + 1) * 1))) = A7 at *
      clear hg6 hown5l hM5 hT5 hown5 hg5 hown4 hM4 hT4 hb4 hbx4 hR3' hbx3 hb3 hR3 hown hM hc0
      go_wp2
      go_roundw
      case rel => exact ⟨d + 1, L ++ newF L (asksF X z), A7, N - (d + 1), N - (d + 1), by go_num, rfl, by rw [HNl.out]; exact hNd, hst.out, by rw [HNl.out, tcs_append]; exact hown6, by have := hcut.out; rw [Nat.mul_one, tcs_drop] at this; exact this, hM6, hbw6⟩
      case measure => simp [RowKit.intOf]; omega
    · have hdl : d = L.length := by omega
      subst hdl
      have hnt : nt = 0 := by omega
      subst hnt
      have hso := hide hB.sorted
      obtain ⟨Al, cl, rfl, hcl, _⟩ := own_texts hown
      have hNb : L.length ≤ 1000000 := by omega
      have hrow : wr.ownsRow (w.heap.size + 1) 9 1 (.slice Al L.length cl) (L.map bytesOf).length ((L.map bytesOf).map encStr) := by rw [Mani.texts_of, List.length_map]; exact hown
      have HS := hide (sort_own (w.heap.size + 1) (.slice Al L.length cl) (L.map bytesOf) wr hrow (by rw [List.length_map]; exact hNb))
      have hlt' := hide (fun k hk => (hown.lt k hk).1)
      clear hrow hown hM hT hB htl hLen hal hd hlt hNb
      go_wp2_with (first
        | (go_at_call 38
           refine HS.out.mono ?_
           rintro e w7 ⟨rfl, hown7, hg7⟩))
      rw [hso.out, Mani.texts_of, List.length_map] at hown7
      have hbw7 : Below w.heap.size w w7 := hb.grown hg7 hbs (fun k hk => by have := hlt'.out k hk; omega)
      obtain ⟨A9, c9, e9, _, hT9⟩ := own_texts hown7
      injection e9 with e1 e2 e3
      subst e1 e3
      go_ret
      first | exact ⟨Al, _, cl, rfl, hT9, hbw7⟩ | exact ⟨Al, _, ⟨cl, rfl⟩, hT9, hbw7⟩
end Go.Proofs.YtmoeilkaadnnoaaGreatDoor.Reach
/-
  Contracts of the program's Missing and Whole: those that are not known of what may be needed; whether there are none. Condition: as many names as may be walked.
-/
namespace Go.Proofs.YtmoeilkaadnnoaaGreatDoor.Reach
open Go Go.RowKit Go.Lib Go.Sort Go.Proofs.YtmoeilkaadnnoaaGreatDoor.Span Go.Proofs.YtmoeilkaadnnoaaGreatDoor.Need Go.Proofs.YtmoeilkaadnnoaaGreatDoor.Mani Go.Proofs.YtmoeilkaadnnoaaGreatDoor.Wire Go.Proofs.YtmoeilkaadnnoaaGreatDoor.Depot Go.Proofs.YtmoeilkaadnnoaaGreatDoor.Index
set_option linter.unusedVariables false
set_option maxHeartbeats 4000000 in
set_option maxRecDepth 100000 in
theorem reachMissing_any (X : List Kn) (root : List Nd) (pv : Value) (A : Option Addr) (n c : Nat) (w : World) (hX : TellsX w pv X) (hf : FineX X) (hXl : X.length ≤ 100) (h : NdOn w A n root) (hn : n ≤ 40) (hr : ∀ q ∈ root, q.1.size ≤ 100) :
    Calls Tryz.prog 12 #[pv, .slice A n c] w (MakesT w (missX X root)) := by
  obtain ⟨i0, hi0, hz0, hz1, hz2⟩ := info_parts info_str
  have HN := hide (reachNames_any X root pv A n c w hX hf hXl h hn hr)
  have hrl : root.length ≤ 40 := by rw [h.len]; exact hn
  have hRl := reachX_len hf hrl
  have Hms := hide (fun (z : ByteArray) (hz : z ∈ reachX X root) => may_short hf hr (reachX_mem.1 hz))
  have HX := hide (fun (wx : World) (hb : Below w.heap.size w wx) => hX.on hb)
  rw [← missL_all]
  unfold MakesT at HN ⊢
  generalize reachX X root = R at *
  have hRb : R.length ≤ 1000000 := by omega
  clear hX hf hXl h hn hr hrl hRl
  go_enter Tryz.func12, Tryz.ntmps12
  go_wp2_with (first
    | (go_at_call 22
       refine HN.out.mono ?_
       rintro e w1 ⟨A1, n1, c1, rfl, hT1, hb1⟩))
  have hX1 := HX.out w1 hb1
  have hlen := hT1.len
  have hn1 : n1 ≤ 1000000 := by omega
  have hb1s := hb1.size
  have Hlen := hide hlen
  clear HN HX hlen
  go_loopw [5, 12] (fun u v wr => ∃ (i m : Nat), i ≤ n1 ∧ v = .int .i64 (i : Int) ∧ m ≤ i ∧ wr.ownsRow w1.heap.size 9 1 u m (tcs (missL X (R.take i))) ∧ Below w1.heap.size w1 wr) (fun _ v _ => n1 - (RowKit.intOf v).toNat)
  case atStart => exact ⟨0, 0, by omega, rfl, by omega, World.ownsRow_nil _ _ _ _, Below.refl _ _⟩
  case round =>
    obtain ⟨i, m, hi, rfl, hm, hown, hb⟩ := hrel
    have hbs := hb.size
    obtain ⟨Ax, cx, rfl, hcx, hrd⟩ := own_texts hown
    by_cases hlt : i < n1
    · obtain ⟨ad, z, rfl, had, hz, hc⟩ := tcs_at (hT1.on hb) hlt
      have hsz := Hms.out z (List.mem_of_getElem? hz)
      have HH := hide (hX1 z wr hb (by omega)).2
      have hst := missL_take (X := X) hz
      clear hrd hz hT1 hX1
      cases hg : (atX X z).isSome with
      | true =>
        rw [hg] at HH
        rw [hg, if_pos rfl] at hst
        have Hst := hide hst
        clear hst hg
        go_wp2_with (first
          | (go_at_call 23
             refine HH.out.mono ?_
             rintro e w2 ⟨rfl, rfl⟩))
        go_roundw
        case rel => exact ⟨i + 1, m, by omega, by go_num, by omega, by rw [Hst.out]; exact hown, hb⟩
        case measure => simp [RowKit.intOf]; omega
      | false =>
        rw [hg] at HH
        rw [hg, if_neg (by simp)] at hst
        have Hst := hide hst
        clear hst hg
        go_wp2_with (first
          | (go_at_call 23
             refine HH.out.mono ?_
             rintro e w2 ⟨rfl, rfl⟩)
          | (at_builtin
             refine wpList_append_any _ rfl _ _ _ rfl w1.heap.size 9 i0 _ 1 16 Tryz.underlying36 hi0 hz0 hz1 hz2 rfl (by omega) _ m (tcs (missL X (R.take i))) rfl (own_below hown (alloc_b (.cells #[.string z] 9))) _ _ 1 _ _ rfl (Reads.new1 _ 9 (.string z)) (one_str _) (by unfold maxLen; omega) (by omega) (by simp; omega) ?_
             intro v2 w3 hown3 hg3 _
             have hb3 : Below w1.heap.size w1 w3 := (hb.alloc hbs _).grown hg3 (by simp; omega) (fun k hk => (hown.lt k hk).1)))
        go_roundw
        case rel => exact ⟨i + 1, m + 1, by omega, by go_num, by omega, by rw [Hst.out, tcs_append]; exact hown3, hb3⟩
        case measure => simp [RowKit.intOf]; omega
    · have hi2 : i = n1 := by omega
      subst hi2
      rw [List.take_of_length_le (by rw [Hlen.out]; exact Nat.le_refl _)] at hrd
      have hbw : Below w.heap.size w wr := hb1.trans (hb.mono hb1s)
      clear hT1 hX1 hown
      go_wp2
      go_ret
      exact ⟨Ax, m, cx, rfl, hrd, hbw⟩
end Go.Proofs.YtmoeilkaadnnoaaGreatDoor.Reach
/-
  What ReachGrows wants: entries that stand first; that a put leaves texts alone; what is told of what more is known.
-/
namespace Go.Proofs.YtmoeilkaadnnoaaGreatDoor.Reach
open Go Go.RowKit Go.Lib Go.Sort Go.Proofs.YtmoeilkaadnnoaaGreatDoor.Span Go.Proofs.YtmoeilkaadnnoaaGreatDoor.Need Go.Proofs.YtmoeilkaadnnoaaGreatDoor.Mani Go.Proofs.YtmoeilkaadnnoaaGreatDoor.Wire Go.Proofs.YtmoeilkaadnnoaaGreatDoor.Depot Go.Proofs.YtmoeilkaadnnoaaGreatDoor.Index
set_option linter.unusedVariables false
theorem rcs_take2 : ∀ (l : List Rw) (k : Nat), (rcs l).take (k * 2) = rcs (l.take k)
  | l, 0 => by simp [rcs]
  | [], k + 1 => by simp [rcs]
  | r :: t, k + 1 => by
    rw [show (k + 1) * 2 = k * 2 + 1 + 1 by omega]
    simp only [rcs, List.take_succ_cons, rcs_take2 t k]
theorem reads_take2 {w : World} {B n k : Nat} {A : Option Addr} {xs : List Value} (h : Reads w B 2 A n xs) (hk : k ≤ n) : Reads w B 2 A k (xs.take (k * 2)) := by
  refine ⟨by rw [List.length_take, h.1]; omega, fun hn => ?_⟩
  obtain ⟨ad, rfl, hb, hcell⟩ := h.2 (by omega)
  refine ⟨ad, rfl, hb, fun j u hu => hcell j u ?_⟩
  rw [List.getElem?_take] at hu
  split at hu
  · exact hu
  · cases hu
/-- The first of some entries. -/
theorem en_take {w : World} {n k : Nat} {A : Option Addr} {l : List En} (h : EnOn w A n l) (hk : k ≤ n) : EnOn w A k (l.take k) := by
  obtain ⟨rs, h1, h2, h3⟩ := h
  refine ⟨rs.take k, ?_, by rw [List.length_take, List.length_take, h2], fun i r q hr hq => h3 i r q ?_ ?_⟩
  · rw [← rcs_take2]; exact reads_take2 h1 hk
  · rw [List.getElem?_take] at hr
    split at hr
    · exact hr
    · cases hr
  · rw [List.getElem?_take] at hq
    split at hq
    · exact hq
    · cases hq
/-- A text's cell is in no block that a put writes. -/
theorem text_far {w : World} {g : Nat} {mo : Option Nat} {X : List Kn} {p : Addr} {z : ByteArray} (h : Idx w g mo X) (hc : w.cell? p = some (.string z)) : p.block ≠ rowX g mo := by
  obtain ⟨hb, hm⟩ := h
  rcases hm with ⟨rfl, _⟩ | ⟨b, rfl, val, ⟨D, ho, _⟩, _⟩
  · intro e
    obtain ⟨pb, po, pf⟩ := p
    have e' : pb = g := e
    subst e'
    unfold Blk at hb
    cases pf with
    | none =>
      simp only [World.cell?, hb] at hc
      cases po with
      | zero => simp at hc
      | succ k => simp at hc
    | some q => simp [World.cell?, hb] at hc
  · obtain ⟨es, clock, hb2, _⟩ := ho
    intro e
    have e' : p.block = b := e
    rw [← e'] at hb2
    simp [World.cell?, hb2] at hc
theorem texts_put {w w' : World} {g n : Nat} {mo : Option Nat} {X : List Kn} {A : Option Addr} {L : List ByteArray} (h : Idx w g mo X) (hT : TxOn w A n L) (hg : w.grownBy w' (some (rowX g mo))) : TxOn w' A n L := by
  refine ⟨hT.1, fun hn => ?_⟩
  obtain ⟨ad, hA, hlt, hc⟩ := hT.2 hn
  refine ⟨ad, hA, Nat.lt_of_lt_of_le hlt hg.size, fun j u hu => ?_⟩
  have h1 := hc j u hu
  have h2 : ∃ z, u = .string z := by
    simp only [tcs, List.getElem?_map, Option.map_eq_some_iff] at hu
    obtain ⟨z, _, rfl⟩ := hu
    exact ⟨z, rfl⟩
  obtain ⟨z, rfl⟩ := h2
  have hne := text_far h h1
  exact (World.cell?_of_block (hg.block _ (by rw [block_of_add]; exact hlt) (fun e => hne (by injection e)))).trans h1
/-- A put: texts beside the index stay. -/
theorem putX_any {w : World} {B g : Nat} {l : List Kn} (nm : ByteArray) (bd : List UInt8) (A : Option Addr) (n c : Nat) (h : IdxB w B g l) (hl : RisesK l) (hlen : l.length ≤ 100000) (hr : Reads w B 1 A n (bcs bd)) (hnm : nm.size ≤ 1000000000) :
    Calls Tryz.prog 14 #[.pointer (some ⟨g, 0, none⟩), .string nm, .slice A n c] w fun e w' =>
      e = .returned (.int .i64 (errX l nm bd)) ∧ IdxB w' B g (putX l nm bd) ∧ Below B w w' ∧ ∀ (Ax : Option Addr) (nx : Nat) (L : List ByteArray), TxOn w Ax nx L → TxOn w' Ax nx L := by
  have hle := h.le
  obtain ⟨h1, mo, h2, h3⟩ := h
  refine (put_any g mo l nm bd A n c B w h2 hl hlen hr (IdxB.row h1 h3) hnm).mono ?_
  rintro e w' ⟨he, ⟨mo', h4, h5⟩, hg⟩
  refine ⟨he, ⟨h1, mo', h4, fun b hb => ?_⟩, (Below.refl _ _).grown hg hle (fun k hk => by injection hk with hk; rw [← hk]; exact IdxB.row h1 h3), fun Ax nx L hT => texts_put h2 hT hg⟩
  rcases h5 with rfl | ⟨_, b', e2, h6⟩
  · exact h3 b hb
  · rw [hb] at e2
    injection e2 with e2
    rw [e2]; exact Nat.le_trans hle h6
/-! What is told of what more is known. -/
theorem known_stays (l : List En) (k : Nat) : ∀ a v, atX (putsX [] (l.take k)) a = some v → atX (putsX [] l) a = some v := by
  intro a v h
  have e : putsX [] l = putsX (putsX [] (l.take k)) (l.drop k) := by rw [← putsX_append, List.take_append_drop]
  rw [e]
  exact puts_stay (putsX_rises List.Pairwise.nil _) h _
theorem reach_sub {X Y : List Kn} {root : List Nd} (hk : ∀ a v, atX X a = some v → atX Y a = some v) {a : ByteArray} (h : a ∈ reachX X root) : a ∈ reachX Y root := reachX_mem.2 (may_grows hk (reachX_mem.1 h))
theorem reach_same {X Y : List Kn} {root : List Nd} (hk : ∀ a v, atX X a = some v → atX Y a = some v) (hw : missX X root = []) : reachX X root = reachX Y root := by
  refine rises_unique (reachX_rises X root) (reachX_rises Y root) fun z => ⟨reach_sub hk, fun h => reachX_mem.2 (may_whole hk (fun a ha => ?_) (reachX_mem.1 h))⟩
  cases e : atX X a with
  | some v => rfl
  | none =>
    have : a ∈ missX X root := List.mem_filter.2 ⟨reachX_mem.2 ha, by rw [e]; rfl⟩
    rw [hw] at this
    cases this
/-- Is a name one of root's, or asked for by one of these? -/
def askedX (X : List Kn) (root : List Nd) (L : List ByteArray) (z : ByteArray) : Prop := z ∈ namesS root ∨ ∃ a ∈ L, z ∈ asksX X a
theorem reach_asked {X : List Kn} {root : List Nd} {z : ByteArray} (h : z ∈ reachX X root) : askedX X root (reachX X root) z := by
  rcases may_from (reachX_mem.1 h) with h | ⟨a, ha, hz⟩
  · exact .inl h
  · exact .inr ⟨a, reachX_mem.2 ha, hz⟩
theorem add_len {X : List Kn} {a z : ByteArray} : ((addF z false (asksF X a)).length = (asksF X a).length ↔ z ∈ asksX X a) := by
  unfold asksF
  rw [addF_there (foldN_rises _)]
  constructor
  · intro h
    split at h
    · rename_i h1; exact (foldN_mem _).1 h1
    · omega
  · intro h
    rw [if_pos ((foldN_mem _).2 h)]
theorem add_same {L : List ByteArray} (hl : RisesN L) {z : ByteArray} (h : z ∈ L) : (addF z false L).length = L.length := by rw [addF_there hl, if_pos h]
/-- Two names that stand one behind the other. -/
theorem next_less {L : List ByteArray} (hl : RisesN L) {i : Nat} {x y : ByteArray} (hx : L[i]? = some x) (hy : L[i + 1]? = some y) : nlt x y = true := by
  obtain ⟨h1, e1⟩ := List.getElem?_eq_some_iff.1 hx
  obtain ⟨h2, e2⟩ := List.getElem?_eq_some_iff.1 hy
  rw [← e1, ← e2]
  exact List.pairwise_iff_getElem.1 hl i (i + 1) h1 h2 (by omega)
end Go.Proofs.YtmoeilkaadnnoaaGreatDoor.Reach
