/-
  Some texts of this claim, one behind the other: FitRef, PlainRefNeeds, PlainRefNext. What each proves, and its condition, stands at its head.
-/
import Derived.Test.YtmoeilkaadnnoaaGreatY37
import Derived.Test.YtmoeilkaadnnoaaGreatY18
import Derived.Test.YtmoeilkaadnnoaaGreatY34
import Derived.Test.YtmoeilkaadnnoaaGreatY13
import Derived.Test.YtmoeilkaadnnoaaGreatY23
import Derived.Test.YtmoeilkaadnnoaaGreatY22
import Derived.Deep.RegionHeld3
/-
  Contracts of the document's met and needs: is a need met by picks; what a pick's release needs. Condition: sets of at most 1,000,000,001 spans; what is known is looked at.
-/
namespace Go.Proofs.YtmoeilkaadnnoaaGreat.Fit
open Go Go.RowKit Go.Lib Go.Proofs.YtmoeilkaadnnoaaGreat.Span Go.Proofs.YtmoeilkaadnnoaaGreat.Need Go.Proofs.YtmoeilkaadnnoaaGreat.Mani Go.Proofs.YtmoeilkaadnnoaaGreat.Wire Go.Proofs.YtmoeilkaadnnoaaGreat.Depot Go.Proofs.YtmoeilkaadnnoaaGreat.Index Go.Proofs.YtmoeilkaadnnoaaGreat.Pick
set_option linter.unusedVariables false
def MakesN (w : World) (L : List Nd) (e : Ending) (w' : World) : Prop := ∃ A n c, e = .returned (.slice A n c) ∧ NdOn w' A n L ∧ Below w.heap.size w w'
end Go.Proofs.YtmoeilkaadnnoaaGreat.Fit
/-
  The contract of the document's needs (layer 17): what a pick's release needs. Condition: what is known is looked at.
-/
namespace Go.Proofs.YtmoeilkaadnnoaaGreat.Plain
open Go Go.RowKit Go.Lib Go.Proofs.YtmoeilkaadnnoaaGreat.Span Go.Proofs.YtmoeilkaadnnoaaGreat.Need Go.Proofs.YtmoeilkaadnnoaaGreat.Mani Go.Proofs.YtmoeilkaadnnoaaGreat.Wire Go.Proofs.YtmoeilkaadnnoaaGreat.Depot Go.Proofs.YtmoeilkaadnnoaaGreat.Index Go.Proofs.YtmoeilkaadnnoaaGreat.Pick Go.Proofs.YtmoeilkaadnnoaaGreat.Fit
set_option linter.unusedVariables false
set_option maxHeartbeats 4000000 in
set_option maxRecDepth 100000 in
theorem refNeeds17_any (X : List Kn) (nm : ByteArray) (v : Int) (A : Option Addr) (n c : Nat) (w : World) (h : InK w A n X) (hn : n ≤ 1000000) (hf : FineX X) :
    Calls Tryz.prog 36 #[.agg #[.slice A n c], .agg #[.string nm, .int .i64 v]] w (MakesN w (needsX X nm v)) := by
  unfold MakesN
  have HG := hide (fun (wx : World) (hx : Below w.heap.size w wx) => refGetX_any X nm A n c wx (h.below hx) hn)
  unfold Gots at HG
  have HR := hide (fun (Ax : Option Addr) (nx cx : Nat) (wx : World) (hx : RlOn wx Ax nx (getX X nm).1) => refGetM_any v nm (getX X nm).1 Ax nx cx wx hx (hf.get nm))
  unfold Gets at HR
  have eN : needsX X nm v = ((getR (getX X nm).1 v).getD (0, [])).2 := rfl
  rw [eN]
  clear eN hf h
  generalize (getX X nm).2 = g2 at *
  generalize (getX X nm).1 = rl at *
  generalize (getR rl v) = r at *
  obtain ⟨W0, hW0⟩ : ∃ W0, W0 = (w.alloc (.cells #[.slice A n c] 35)).alloc (.cells #[.string nm, .int .i64 v] 63) := ⟨_, rfl⟩
  have hb0 : Below w.heap.size w W0 := by rw [hW0]; exact (alloc_b w _).alloc (by simp) _
  have hB1 : Blk W0 (w.heap.size + 1) 63 #[.string nm, .int .i64 v] := by
    rw [hW0]
    have := Blk.new (w.alloc (.cells #[.slice A n c] 35)) 63 #[.string nm, .int .i64 v]
    rwa [World.size_alloc] at this
  have k0 : W0.cell? ⟨w.heap.size, 0, none⟩ = some (.slice A n c) := by
    rw [hW0]
    exact (((Blk.new w 35 #[.slice A n c]).alloc _).cell 0).trans rfl
  have k1 : W0.cell? ⟨w.heap.size + 1, 0, none⟩ = some (.string nm) := (hB1.cell 0).trans rfl
  have hg1 := hB1.lt
  go_enter Tryz.func36, Tryz.ntmps36
  go_upto_region 1 with fail
  rw [← hW0]
  clear hW0
  generalize w.heap.size + 1 = g5 at *
  go_upto_region 2 with (first
    | (go_at_call 29
       refine (HG.out _ hb0).mono ?_
       rintro e w1 ⟨A1, n1, c1, B1, rs1, rfl, hR1, hb1⟩))
  have hb01 := hb0.trans (hb1.mono hb0.size)
  have hB2 := hB1.below hb1 hg1
  obtain ⟨W1, hW1⟩ : ∃ W1, W1 = w1.alloc (.cells #[.string nm, .slice A1 n1 c1] 77) := ⟨_, rfl⟩
  have hM1 : Blk W1 w1.heap.size 77 #[.string nm, .slice A1 n1 c1] := by rw [hW1]; exact Blk.new _ _ _
  have hB3 : Blk W1 g5 63 #[.string nm, .int .i64 v] := by rw [hW1]; exact hB2.alloc _
  have hR2 : RlOn W1 A1 n1 rl := by rw [hW1]; exact (hR1.below (alloc_b _ _)).on
  have hb02 : Below w.heap.size w W1 := by rw [hW1]; exact hb01.alloc hb01.size _
  rw [← hW1]
  have p0 := (hM1.cell 0).trans (show (#[Value.string nm, .slice A1 n1 c1] : Array Value)[0]? = some (.string nm) from rfl)
  have p1 := (hM1.cell 1).trans (show (#[Value.string nm, .slice A1 n1 c1] : Array Value)[1]? = some (.slice A1 n1 c1) from rfl)
  have p2 := (hB3.cell 1).trans (show (#[Value.string nm, .int .i64 v] : Array Value)[1]? = some (.int .i64 v) from rfl)
  clear hW1 hR1 hb1 hB2 HG k0 k1
  generalize w1.heap.size = g6 at *
  go_wp2_with (first
    | (go_at_call 63
       refine (HR.out _ _ _ _ hR2).mono ?_
       rintro e w2 ⟨A3, n3, c3, rfl, hN3, hb3⟩))
  go_ret
  exact ⟨A3, n3, c3, rfl, hN3.on (alloc_b _ _), (hb02.trans (hb3.mono hb02.size)).alloc (hb02.trans (hb3.mono hb02.size)).size _⟩
end Go.Proofs.YtmoeilkaadnnoaaGreat.Plain
/-
  The contract of the document's Next: the least name that is needed and not picked. Condition: what is known is looked at; at most 60 picks.
-/
namespace Go.Proofs.YtmoeilkaadnnoaaGreat.Plain
open Go Go.RowKit Go.Lib Go.Sort Go.Proofs.YtmoeilkaadnnoaaGreat.Span Go.Proofs.YtmoeilkaadnnoaaGreat.Need Go.Proofs.YtmoeilkaadnnoaaGreat.Mani Go.Proofs.YtmoeilkaadnnoaaGreat.Wire Go.Proofs.YtmoeilkaadnnoaaGreat.Depot Go.Proofs.YtmoeilkaadnnoaaGreat.Index Go.Proofs.YtmoeilkaadnnoaaGreat.Reach Go.Proofs.YtmoeilkaadnnoaaGreat.Pick Go.Proofs.YtmoeilkaadnnoaaGreat.Fit
set_option linter.unusedVariables false
def wantF (X : List Kn) (root : List Nd) (l : List Pk) : List ByteArray := addsN (addsN [] (namesS root)) (l.flatMap fun p => namesS (needsX X p.1 p.2))
theorem wantF_next {X : List Kn} {root : List Nd} {l : List Pk} {i : Nat} {q : Pk} (h : l[i]? = some q) : wantF X root (l.take (i + 1)) = addsN (wantF X root (l.take i)) (namesS (needsX X q.1 q.2)) := by
  unfold wantF
  rw [take_snoc' l i q h, List.flatMap_append, addsN_append]
  simp
theorem adds_names {o : List ByteArray} {L : List Nd} {i : Nat} {q : Nd} (h : L[i]? = some q) : addsN o (namesS (L.take (i + 1))) = addF q.1 false (addsN o (namesS (L.take i))) := by rw [names_take h, addsN_snoc]
theorem names_le (L : List Nd) (i : Nat) : (namesS (L.take i)).length ≤ L.length := by
  unfold namesS
  rw [List.length_map, List.length_take]
  omega
theorem wantF_len {X : List Kn} {root : List Nd} (hs : SetX X) : ∀ (l : List Pk), (wantF X root l).length ≤ root.length + 6 * l.length := by
  intro l
  have h1 := addsN_len (addsN [] (namesS root)) (l.flatMap fun p => namesS (needsX X p.1 p.2))
  have h2 := addsN_len [] (namesS root)
  have h3 := flat_six (fun p : Pk => namesS (needsX X p.1 p.2)) l fun p _ => by unfold namesS; rw [List.length_map]; exact (needs_sets hs p.1 p.2).1
  have h4 : (namesS root).length = root.length := by unfold namesS; rw [List.length_map]
  have h5 : ([] : List ByteArray).length = 0 := rfl
  unfold wantF
  omega
theorem first_next {L : List ByteArray} {f : ByteArray → Bool} {i : Nat} {z : ByteArray} (h : L[i]? = some z) : (L.drop i).find? f = if f z = true then some z else (L.drop (i + 1)).find? f := by
  obtain ⟨hi, e⟩ := List.getElem?_eq_some_iff.1 h
  rw [List.drop_eq_getElem_cons hi, e, List.find?_cons]
  cases g : f z <;> simp
section
variable (X : List Kn) (root : List Nd) (l : List Pk) (Ay : Option Addr) (ny cy : Nat) (Ar : Option Addr) (nr cr : Nat) (Al : Option Addr) (nl cl : Nat) (w : World)
set_option maxHeartbeats 16000000 in
set_option maxRecDepth 100000 in
theorem refNextX_any (hK : InK w Ay ny X) (hn : ny ≤ 1000000) (hf : FineX X) (hs : SetX X) (hr : NdOn w Ar nr root) (hok : okS root = true) (hp : PkOn w Al nl l) (hnl : nl ≤ 60) :
    Calls Tryz.prog 17 #[.agg #[.slice Ay ny cy], .slice Ar nr cr, .slice Al nl cl] w fun e w' => e = .returned (.tuple #[.string ((nextX X root l).getD ByteArray.empty), .bool (nextX X root l).isSome]) ∧ Below w.heap.size w w' := by
  have hrl := hr.len
  have hpl := hp.len
  have hnr : nr ≤ 6 := by rw [← hrl]; exact (okS_parts hok).2.1
  have Hrl := hide hrl
  have Hpl := hide hpl
  have HN := hide (fun (wx : World) (hx : Below w.heap.size w wx) (a : ByteArray) (v : Int) => refNeeds17_any X a v Ay ny cy wx (hK.below hx) hn hf)
  unfold MakesN at HN
  have HP := hide (fun (a : ByteArray) (wx : World) (hx : Below w.heap.size w wx) => refGetP_any l a Al nl cl wx (hp.on hx) (by omega))
  have HA := hide (fun (L : List ByteArray) (x : ByteArray) (Ax : Option Addr) (mx cx : Nat) (wx : World) (hT : TxOn wx Ax mx L) (h6 : mx ≤ 1000000) => add_any L x Ax mx cx wx hT h6)
  unfold MakesT at HA
  have Hnx := hide (fun (i : Nat) (q : Pk) (h : l[i]? = some q) => wantF_next (X := X) (root := root) h)
  have Hwl := hide (fun (i : Nat) => (show (wantF X root (l.take i)).length ≤ 366 by
    have h1 := wantF_len (X := X) (root := root) hs (l.take i)
    have h2 : (l.take i).length ≤ 60 := by rw [List.length_take]; omega
    omega))
  have Hsx := hide (fun (a : ByteArray) (v : Int) => (needs_sets hs a v).1)
  have Hres : Hid (nextX X root l = (wantF X root l).find? fun a => (getP l a).isNone) := hide rfl
  obtain ⟨R, hR⟩ : ∃ R, R = nextX X root l := ⟨_, rfl⟩
  rw [← hR]
  have HR := hide hR
  have b0 := Blk.new w 35 #[.slice Ay ny cy]
  have hb0 := alloc_b w (.cells #[.slice Ay ny cy] 35)
  clear hK hn hf hok hs hrl hpl hR
  go_enter Tryz.func17, Tryz.ntmps17
  go_wp2
  go_loopw [8, 9] (fun u v wr => ∃ (i m : Nat) (Ax : Option Addr) (cx : Nat), i ≤ nr ∧ u = .slice Ax m cx ∧ v = .int .i64 (i : Int) ∧ TxOn wr Ax m (addsN [] (namesS (root.take i))) ∧ Blk wr w.heap.size 35 #[.slice Ay ny cy] ∧ Below w.heap.size w wr) (fun _ v _ => nr - (RowKit.intOf v).toNat)
  case atStart => exact ⟨0, 0, none, 0, by omega, rfl, rfl, ⟨rfl, fun h => absurd h (by omega)⟩, b0, hb0⟩
  case round =>
    obtain ⟨i, m, Ax, cx, hi, rfl, rfl, hT, hB, hb⟩ := hrel
    have hbs := hb.size
    clear b0 hb0
    by_cases hlt : i < nr
    · obtain ⟨ad, q, A', n', c', rfl, hbq, hx, hss, c1, c2⟩ := NdIn.at_ (NdIn.below hr hb) hlt
      have hst := adds_names (o := []) hx
      obtain ⟨x, s⟩ := q
      simp only [] at c1 c2 hss hst
      have hm : m ≤ 1000000 := by
        have h1 := hT.len
        have h2 := addsN_len [] (namesS (root.take i))
        have h3 := names_le root i
        have h4 := Hrl.out
        have h5 : ([] : List ByteArray).length = 0 := rfl
        omega
      have HAx := hide (HA.out _ x Ax m cx wr hT hm)
      rw [← hst] at HAx
      clear hst hx hT hr hss HA HN HP Hnx Hwl Hsx Hres HR
      go_wp2_with (go_at_call 35
                   refine HAx.out.mono ?_
                   rintro e w1 ⟨A1, n1, c1', rfl, h1, hb1⟩
                   have hbx := hb.trans (hb1.mono hbs)
                   have hB1 := hB.below hb1 hB.lt)
      go_roundw
      case rel => exact ⟨i + 1, n1, A1, c1', by omega, rfl, by go_num, h1, hB1, hbx⟩
      case measure => simp [RowKit.intOf]; omega
    · have hi2 : i = nr := by omega
      have e0 : addsN [] (namesS (root.take i)) = wantF X root (l.take 0) := by
        rw [hi2, List.take_of_length_le (by rw [Hrl.out]; exact Nat.le_refl _)]; rfl
      rw [e0] at hT
      clear e0 hi2 hr
      go_wp2
      go_loopw [8, 10] (fun u v wy => ∃ (j m : Nat) (Ax : Option Addr) (cx : Nat), j ≤ nl ∧ u = .slice Ax m cx ∧ v = .int .i64 (j : Int) ∧ TxOn wy Ax m (wantF X root (l.take j)) ∧ Blk wy w.heap.size 35 #[.slice Ay ny cy] ∧ Below w.heap.size w wy) (fun _ v _ => nl - (RowKit.intOf v).toNat)
      case atStart => exact ⟨0, m, Ax, cx, by omega, rfl, rfl, hT, hB, hb⟩
      case round =>
        obtain ⟨j, m2, A2, c2, hj, rfl, rfl, hT2, hB2, hb2⟩ := hrel
        have hbs2 := hb2.size
        clear hT hB hb hbs
        by_cases hlj : j < nl
        · obtain ⟨ad, q, rfl, hbl, hx, c1, c2'⟩ := PkIn.at_ (PkIn.below hp hb2) hlj
          have hbl2 : ad.block < wr.heap.size := by omega
          have hst := Hnx.out j q hx
          obtain ⟨x, v⟩ := q
          simp only [] at c1 c2' hst
          have HNx := hide (fun (wx : World) (hb8 : Below wr.heap.size wr wx) => HN.out wx (hb2.trans (hb8.mono hbs2)) x v)
          have h6 := Hsx.out x v
          have hw1 := Hwl.out j
          have kX := (hB2.cell 0).trans (show (#[Value.slice Ay ny cy] : Array Value)[0]? = some (.slice Ay ny cy) from rfl)
          have hXlt := hB2.lt
          have i1 : (0 : Int) ≤ (j : Int) := by omega
          have i2 : (j : Int) < (nl : Int) := by omega
          have Hst := hide hst
          clear hx hst HN Hnx Hwl Hsx Hres HR HP
          generalize wantF X root (l.take j) = o at *
          generalize ho2 : wantF X root (l.take (j + 1)) = o2 at *
          generalize needsX X x v = N at *
          go_upto_region 9 with fail
          have kc : wr.cell? ⟨w.heap.size, 0, none⟩ = some (.slice Ay ny cy) ∧ wr.cell? (ad.add (j * 2)) = some (.string x) ∧ wr.cell? ⟨(ad.add (j * 2)).block, (ad.add (j * 2)).off + 1, none⟩ = some (.int .i64 v) := ⟨kX, c1, c2'⟩
          go_region_held3 (fun w' => w'.cell? ⟨w.heap.size, 0, none⟩ = some (.slice Ay ny cy) ∧ w'.cell? (ad.add (j * 2)) = some (.string x) ∧ w'.cell? ⟨(ad.add (j * 2)).block, (ad.add (j * 2)).off + 1, none⟩ = some (.int .i64 v)) (first | exact kc8 | exact kc | go_keep)
            (first
              | (go_at_call 36
                 refine (HNx.out _ ((Below.refl _ _).drew)).mono ?_
                 rintro e w8 ⟨A8, n8, c8, rfl, hN8, hb8⟩
                 have hb8k : Below wr.heap.size wr w8 := ((Below.refl _ _).drew).trans hb8
                 have kc8 : w8.cell? ⟨w.heap.size, 0, none⟩ = some (.slice Ay ny cy) ∧ w8.cell? (ad.add (j * 2)) = some (.string x) ∧ w8.cell? ⟨(ad.add (j * 2)).block, (ad.add (j * 2)).off + 1, none⟩ = some (.int .i64 v) :=
                   ⟨(hb8k.cell (p := ⟨w.heap.size, 0, none⟩) hXlt).trans kX, (hb8k.cell (p := ad.add (j * 2)) (by rw [block_of_add]; exact hbl2)).trans c1, (hb8k.cell (p := ⟨(ad.add (j * 2)).block, (ad.add (j * 2)).off + 1, none⟩) (by simp only [block_of_add]; exact hbl2)).trans c2'⟩))
          have hn8 : n8 ≤ 6 := by have h1 := hN8.len; omega
          have hT8 := hT2.on hb8k
          have hB8 := hB2.below hb8k hB2.lt
          have hb08 := hb2.trans (hb8k.mono hbs2)
          have HN8l := hide hN8.len
          clear kc kc8 c1 c2' kX hb8 hT2 hB2 hb2 hbs2 hb8k HNx
          go_wp2
          go_loopw [8, 12] (fun u v wz => ∃ (k m : Nat) (Ax : Option Addr) (cx : Nat), k ≤ n8 ∧ u = .slice Ax m cx ∧ v = .int .i64 (k : Int) ∧ TxOn wz Ax m (addsN o (namesS (N.take k))) ∧ Below w8.heap.size w8 wz) (fun _ v _ => n8 - (RowKit.intOf v).toNat)
          case atStart => exact ⟨0, m2, A2, c2, by omega, rfl, rfl, hT8, Below.refl _ _⟩
          case round =>
            obtain ⟨k, m3, A3, c3, hk, rfl, rfl, hT3, hb3⟩ := hrel
            have hbs3 := hb3.size
            by_cases hlk : k < n8
            · obtain ⟨ad3, q3, A', n', c', rfl, hbq, hx, hss, d1, d2⟩ := NdIn.at_ (NdIn.below hN8 hb3) hlk
              have hst := adds_names (o := o) hx
              obtain ⟨x3, s3⟩ := q3
              simp only [] at d1 d2 hss hst
              have hm : m3 ≤ 1000000 := by
                have h1 := hT3.len
                have h2 := addsN_len o (namesS (N.take k))
                have h3 := names_le N k
                omega
              have HAx := hide (HA.out _ x3 A3 m3 c3 wr hT3 hm)
              rw [← hst] at HAx
              clear hst hx hT3 hss hN8 HA
              go_wp2_with (go_at_call 35
                           refine HAx.out.mono ?_
                           rintro e w1 ⟨A1, n1, c1', rfl, h1, hb1⟩
                           have hbx := hb3.trans (hb1.mono hbs3))
              go_roundw
              case rel => exact ⟨k + 1, n1, A1, c1', by omega, rfl, by go_num, h1, hbx⟩
              case measure => simp [RowKit.intOf]; omega
            · have hk2 : k = n8 := by omega
              have e1 : addsN o (namesS (N.take k)) = o2 := by rw [Hst.out, hk2, List.take_of_length_le (by rw [HN8l.out]; exact Nat.le_refl _)]
              rw [e1] at hT3
              have hB9 := hB8.below hb3 hB8.lt
              have hb9 := hb08.trans (hb3.mono hb08.size)
              clear e1 hk2 hN8 HA
              go_wp2
              go_roundw
              case rel => exact ⟨j + 1, m3, A3, c3, by omega, rfl, by go_num, by rw [ho2]; exact hT3, hB9, hb9⟩
              case measure => simp [RowKit.intOf]; omega
        · have hj2 : j = nl := by omega
          have e2 : wantF X root (l.take j) = wantF X root l := by rw [hj2, List.take_of_length_le (by rw [Hpl.out]; exact Nat.le_refl _)]
          rw [e2] at hT2
          have hw2 := Hwl.out j
          rw [e2] at hw2
          have hm2 := hT2.len
          have Hd := hide (fun (i : Nat) (z : ByteArray) (h : (wantF X root l)[i]? = some z) => first_next (f := fun a => (getP l a).isNone) h)
          have HW := hide (HR.out.trans Hres.out)
          clear e2 hj2 HN HA Hnx Hwl Hsx Hres HR hp
          generalize wantF X root l = W at *
          go_wp2
          go_loopw [13] (fun v wz => ∃ (k : Nat), k ≤ m2 ∧ v = .int .i64 (k : Int) ∧ Hid (R = (W.drop k).find? fun a => (getP l a).isNone) ∧ Below wr.heap.size wr wz) (fun v _ => m2 - (RowKit.intOf v).toNat)
          case atStart => exact ⟨0, by omega, rfl, HW, Below.refl _ _⟩
          case round =>
            obtain ⟨k, hk, rfl, hf, hb3⟩ := hrel
            have hb03 := hb2.trans (hb3.mono hbs2)
            by_cases hlk : k < m2
            · obtain ⟨ad, z, rfl, had, hz, hc⟩ := tcs_at (Reads.below hT2 hb3) hlk
              have hd := hf.out.trans (Hd.out k z hz)
              have HPz := hide (fun wx hx => HP.out z wx hx)
              clear hz hf HW HP Hd hT2
              cases g : getP l z with
              | none =>
                rw [g] at HPz
                have e : Hid (R = some z) := hide (by rw [hd, g]; rfl)
                clear hd g
                go_wp2_with (go_at_call 37
                             refine (HPz.out _ hb03).mono ?_
                             rintro e w1 ⟨rfl, rfl⟩)
                go_ret2
                exact ⟨by rw [e.out]; rfl, hb03⟩
              | some v =>
                rw [g] at HPz
                have e : Hid (R = (W.drop (k + 1)).find? fun a => (getP l a).isNone) := hide (by rw [hd, g]; rfl)
                clear hd g
                go_wp2_with (go_at_call 37
                             refine (HPz.out _ hb03).mono ?_
                             rintro e w1 ⟨rfl, rfl⟩)
                go_roundw
                case rel => exact ⟨k + 1, by omega, by go_num, e, hb3⟩
                case measure => simp [RowKit.intOf]; omega
            · have e : Hid (R = none) := hide (by rw [hf.out, List.drop_of_length_le (by omega)]; rfl)
              clear hf HW HP Hd hT2
              go_wp2
              go_ret2
              exact ⟨by rw [e.out]; rfl, hb03⟩
end
end Go.Proofs.YtmoeilkaadnnoaaGreat.Plain
