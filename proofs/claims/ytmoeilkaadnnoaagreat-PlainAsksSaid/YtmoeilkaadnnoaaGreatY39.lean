/-
  Some texts of this claim, one behind the other: PlainRefAsked. What each proves, and its condition, stands at its head.
-/
import Derived.Test.YtmoeilkaadnnoaaGreatY38
import Derived.Test.YtmoeilkaadnnoaaGreatY17
import Derived.Test.YtmoeilkaadnnoaaGreatY13
import Derived.Test.YtmoeilkaadnnoaaGreatY23
import Derived.Deep.RegionHeld3
/-
  Contracts of the document's Asked and dead: what is asked of a name; is this a dead end. Condition: what is known is looked at; at most 60 picks.
-/
namespace Go.Proofs.YtmoeilkaadnnoaaGreat.Plain
open Go Go.RowKit Go.Lib Go.Sort Go.Proofs.YtmoeilkaadnnoaaGreat.Span Go.Proofs.YtmoeilkaadnnoaaGreat.Need Go.Proofs.YtmoeilkaadnnoaaGreat.Mani Go.Proofs.YtmoeilkaadnnoaaGreat.Wire Go.Proofs.YtmoeilkaadnnoaaGreat.Depot Go.Proofs.YtmoeilkaadnnoaaGreat.Index Go.Proofs.YtmoeilkaadnnoaaGreat.Pick Go.Proofs.YtmoeilkaadnnoaaGreat.Fit
set_option linter.unusedVariables false
theorem drewb (w : World) : Below w.heap.size w w.drew := (Below.refl _ _).drew
section
variable (X : List Kn) (root : List Nd) (l : List Pk) (nm : ByteArray) (Ay : Option Addr) (ny cy : Nat) (Ar : Option Addr) (nr cr : Nat) (Al : Option Addr) (nl cl : Nat) (w : World)
set_option maxHeartbeats 8000000 in
set_option maxRecDepth 100000 in
theorem refAskedX_any (hK : InK w Ay ny X) (hn : ny ≤ 1000000) (hf : FineX X) (hs : SetX X) (hr : NdOn w Ar nr root) (hok : okS root = true) (hp : PkOn w Al nl l) (hnl : nl ≤ 60) :
    Calls Tryz.prog 20 #[.agg #[.slice Ay ny cy], .slice Ar nr cr, .slice Al nl cl, .string nm] w (Makes w (askedX X root l nm)) := by
  unfold Makes
  have hnr : nr ≤ 6 := by rw [← hr.len]; exact (okS_parts hok).2.1
  have Hpl := hide hp.len
  have HA := hide (fun (wx : World) => refAll_any wx)
  have HF := hide (fun (wx : World) (hx : Below w.heap.size w wx) => refFindN_any root nm Ar nr cr wx (hr.on hx) (by omega))
  have HN := hide (fun (wx : World) (hx : Below w.heap.size w wx) (a : ByteArray) (v : Int) => refNeeds17_any X a v Ay ny cy wx (hK.below hx) hn hf)
  have HG := hide (fun (a : ByteArray) (v : Int) (Ax : Option Addr) (nx cx : Nat) (wx : World) (hx : NdOn wx Ax nx (needsX X a v)) => refFindN_any (needsX X a v) nm Ax nx cx wx hx (by have h1 := hx.len; have h2 := (needs_sets hs a v).1; omega))
  unfold Finds at HF HG
  unfold MakesN at HN
  have HM := hide (fun (Ax Az : Option Addr) (nx cx nz cz : Nat) (a b : List S) (wx : World) (hx : SpOn wx Ax nx a) (hz : SpOn wx Az nz b) (h1 : nx ≤ 1000) (h2 : nz ≤ 1000) => @refMeet_any _ nx cx _ nz cz Ax Az a b wx hx hz (Nat.le_refl _) (Nat.le_refl _) h1 h2)
  have H0s := narrow_set allS_set (findS root nm)
  have H0l := narrow_len allS_set hok nm
  have hfl : ∀ x, findS root nm = some x → x.length ≤ 6 := fun x hx => ((okS_parts hok).2.2.2 _ (find_in hx)).2
  have Hgl := hide (fun (a : ByteArray) (v : Int) (x : List S) (hx : findS (needsX X a v) nm = some x) => ((needs_sets hs a v).2 _ (find_in hx)).2)
  have Hres : Hid (askedX X root l nm = askF X nm (narrow allS (findS root nm)) l) := hide (asked_is X root l nm)
  have hal : allS.length = 1 := rfl
  have b0 := Blk.new w 35 #[.slice Ay ny cy]
  have hb0 := alloc_b w (.cells #[.slice Ay ny cy] 35)
  obtain ⟨o0, ho0⟩ : ∃ o0, o0 = narrow allS (findS root nm) := ⟨_, rfl⟩
  rw [← ho0] at H0s H0l Hres
  have Hok := hide (fun (i : Nat) => askF_ok hs nm (l.take i) H0s)
  have Hnx := hide (fun (i : Nat) (q : Pk) (h : l[i]? = some q) => askF_next (X := X) (a := nm) (o := o0) h)
  clear hK hn hf hr hok hs H0s
  cases hfr : findS root nm with
  | none =>
    rw [hfr] at HF ho0
    have e0 : o0 = allS := ho0
    clear ho0 hfr
    go_enter Tryz.func20, Tryz.ntmps20
    go_wp2_with (first
      | (go_at_call 41
         refine (HA.out _).mono ?_
         rintro e w1 ⟨A1, n1, c1, rfl, hS1, hb1⟩
         have hb01 := hb0.trans (hb1.mono hb0.size)
         have hB1 := b0.below hb1 b0.lt)
      | (go_at_call 42
         refine (HF.out _ hb01).mono ?_
         rintro e w2 ⟨A2, n2, c2, rfl, hS2, hb2⟩
         have hb03 := hb01.trans (hb2.mono hb01.size)
         have hB3 := hB1.below hb2 hB1.lt
         have hS3 : SpOn w2 A1 n1 allS := SpOn.on hS1 hb2))
    rw [← e0] at hS3
    clear b0 hb0 hb1 hb01 hB1 hS1 hb2 HA HF hS2 e0 hfl
    go_loopw [9, 12] (fun u t wr => ∃ (i m : Nat) (Ax : Option Addr) (cx : Nat), u = .slice Ax m cx ∧ i ≤ nl ∧ t = .int .i64 (i : Int) ∧ SpOn wr Ax m (askF X nm o0 (l.take i)) ∧ Blk wr w.heap.size 35 #[.slice Ay ny cy] ∧ Below w.heap.size w wr) (fun _ t _ => nl - (RowKit.intOf t).toNat)
    case atStart => exact ⟨0, _, _, _, rfl, by omega, rfl, hS3, hB3, hb03⟩
    case round =>
      obtain ⟨i, m, Ax, cx, rfl, hi, rfl, hS, hB, hb⟩ := hrel
      have hbs := hb.size
      clear hS3 hB3 hb03
      have hm : m ≤ 1000 := by
        have h1 := hS.len
        have h2 := (Hok.out i).2
        have h3 : (l.take i).length ≤ i := by rw [List.length_take]; omega
        omega
      by_cases hlt : i < nl
      · obtain ⟨ad, q, rfl, hbl, hx, c1, c2⟩ := PkIn.at_ (PkIn.below hp hb) hlt
        have hbl2 : ad.block < wr.heap.size := by omega
        have hst := Hnx.out i q hx
        obtain ⟨x, v⟩ := q
        simp only [] at c1 c2 hst
        have HNx := hide (fun (wx : World) (hb8 : Below wr.heap.size wr wx) => HN.out wx (hb.trans (hb8.mono hbs)) x v)
        have HGx := hide (fun (Az : Option Addr) (nz cz : Nat) (wx : World) (hz : NdOn wx Az nz (needsX X x v)) => HG.out x v Az nz cz wx hz)
        have Hgx := hide (fun z hz => Hgl.out x v z hz)
        have kX := (hB.cell 0).trans (show (#[Value.slice Ay ny cy] : Array Value)[0]? = some (.slice Ay ny cy) from rfl)
        have hXlt := hB.lt
        have i1 : (0 : Int) ≤ (i : Int) := by omega
        have i2 : (i : Int) < (nl : Int) := by omega
        have Hst := hide hst
        clear hx hst HN HG Hgl Hnx Hok Hpl Hres
        generalize askF X nm o0 (l.take i) = o at *
        generalize ho2 : askF X nm o0 (l.take (i + 1)) = o2 at *
        generalize needsX X x v = N at *
        cases g : findS N nm with
        | none =>
          rw [g] at HGx Hst
          have e2 : o2 = o := Hst.out
          clear Hgx
          go_upto_region 8 with fail
          have kc : wr.cell? ⟨w.heap.size, 0, none⟩ = some (.slice Ay ny cy) ∧ wr.cell? (ad.add (i * 2)) = some (.string x) ∧ wr.cell? ⟨(ad.add (i * 2)).block, (ad.add (i * 2)).off + 1, none⟩ = some (.int .i64 v) := ⟨kX, c1, c2⟩
          go_region_held3 (fun w' => w'.cell? ⟨w.heap.size, 0, none⟩ = some (.slice Ay ny cy) ∧ w'.cell? (ad.add (i * 2)) = some (.string x) ∧ w'.cell? ⟨(ad.add (i * 2)).block, (ad.add (i * 2)).off + 1, none⟩ = some (.int .i64 v)) (first | exact kc9 | exact kc8 | exact kc | go_keep)
            (first
              | (go_at_call 36
                 refine (HNx.out _ (drewb wr)).mono ?_
                 rintro e w8 ⟨A8, n8, c8, rfl, hN8, hb8⟩
                 have hb8k : Below wr.heap.size wr w8 := (drewb wr).trans hb8
                 have kc8 : w8.cell? ⟨w.heap.size, 0, none⟩ = some (.slice Ay ny cy) ∧ w8.cell? (ad.add (i * 2)) = some (.string x) ∧ w8.cell? ⟨(ad.add (i * 2)).block, (ad.add (i * 2)).off + 1, none⟩ = some (.int .i64 v) := ⟨(hb8k.cell (p := ⟨w.heap.size, 0, none⟩) hXlt).trans kX, (hb8k.cell (p := ad.add (i * 2)) (by rw [block_of_add]; exact hbl2)).trans c1, (hb8k.cell (p := ⟨(ad.add (i * 2)).block, (ad.add (i * 2)).off + 1, none⟩) (by simp only [block_of_add]; exact hbl2)).trans c2⟩)
              | (go_at_call 42
                 refine (HGx.out _ _ _ _ hN8).mono ?_
                 rintro e w9 ⟨A9, n9, c9, rfl, hS9, hb9⟩
                 have hb9k : Below wr.heap.size wr w9 := hb8k.trans (hb9.mono hb8k.size)
                 have kc9 : w9.cell? ⟨w.heap.size, 0, none⟩ = some (.slice Ay ny cy) ∧ w9.cell? (ad.add (i * 2)) = some (.string x) ∧ w9.cell? ⟨(ad.add (i * 2)).block, (ad.add (i * 2)).off + 1, none⟩ = some (.int .i64 v) := ⟨(hb9k.cell (p := ⟨w.heap.size, 0, none⟩) hXlt).trans kX, (hb9k.cell (p := ad.add (i * 2)) (by rw [block_of_add]; exact hbl2)).trans c1, (hb9k.cell (p := ⟨(ad.add (i * 2)).block, (ad.add (i * 2)).off + 1, none⟩) (by simp only [block_of_add]; exact hbl2)).trans c2⟩))
          have hS10 := SpOn.on hS hb9k
          have hB10 := hB.below hb9k hB.lt
          have hb10 := hb.trans (hb9k.mono hbs)
          clear kc kc8 kc9 c1 c2 kX
          go_wp2
          go_roundw
          case rel => exact ⟨i + 1, _, _, _, rfl, by omega, by go_num, by rw [ho2, e2]; exact hS10, hB10, hb10⟩
          case measure => simp [RowKit.intOf]; omega
        | some s =>
          rw [g] at HGx Hst
          have e2 : o2 = meetS o s := Hst.out
          have hs6 := Hgx.out s g
          clear Hgx
          go_upto_region 8 with fail
          have kc : wr.cell? ⟨w.heap.size, 0, none⟩ = some (.slice Ay ny cy) ∧ wr.cell? (ad.add (i * 2)) = some (.string x) ∧ wr.cell? ⟨(ad.add (i * 2)).block, (ad.add (i * 2)).off + 1, none⟩ = some (.int .i64 v) := ⟨kX, c1, c2⟩
          go_region_held3 (fun w' => w'.cell? ⟨w.heap.size, 0, none⟩ = some (.slice Ay ny cy) ∧ w'.cell? (ad.add (i * 2)) = some (.string x) ∧ w'.cell? ⟨(ad.add (i * 2)).block, (ad.add (i * 2)).off + 1, none⟩ = some (.int .i64 v)) (first | exact kc9 | exact kc8 | exact kc | go_keep)
            (first
              | (go_at_call 36
                 refine (HNx.out _ (drewb wr)).mono ?_
                 rintro e w8 ⟨A8, n8, c8, rfl, hN8, hb8⟩
                 have hb8k : Below wr.heap.size wr w8 := (drewb wr).trans hb8
                 have kc8 : w8.cell? ⟨w.heap.size, 0, none⟩ = some (.slice Ay ny cy) ∧ w8.cell? (ad.add (i * 2)) = some (.string x) ∧ w8.cell? ⟨(ad.add (i * 2)).block, (ad.add (i * 2)).off + 1, none⟩ = some (.int .i64 v) := ⟨(hb8k.cell (p := ⟨w.heap.size, 0, none⟩) hXlt).trans kX, (hb8k.cell (p := ad.add (i * 2)) (by rw [block_of_add]; exact hbl2)).trans c1, (hb8k.cell (p := ⟨(ad.add (i * 2)).block, (ad.add (i * 2)).off + 1, none⟩) (by simp only [block_of_add]; exact hbl2)).trans c2⟩)
              | (go_at_call 42
                 refine (HGx.out _ _ _ _ hN8).mono ?_
                 rintro e w9 ⟨A9, n9, c9, rfl, hS9, hb9⟩
                 have hb9k : Below wr.heap.size wr w9 := hb8k.trans (hb9.mono hb8k.size)
                 have kc9 : w9.cell? ⟨w.heap.size, 0, none⟩ = some (.slice Ay ny cy) ∧ w9.cell? (ad.add (i * 2)) = some (.string x) ∧ w9.cell? ⟨(ad.add (i * 2)).block, (ad.add (i * 2)).off + 1, none⟩ = some (.int .i64 v) := ⟨(hb9k.cell (p := ⟨w.heap.size, 0, none⟩) hXlt).trans kX, (hb9k.cell (p := ad.add (i * 2)) (by rw [block_of_add]; exact hbl2)).trans c1, (hb9k.cell (p := ⟨(ad.add (i * 2)).block, (ad.add (i * 2)).off + 1, none⟩) (by simp only [block_of_add]; exact hbl2)).trans c2⟩))
          have hS10 := SpOn.on hS hb9k
          have hB10 := hB.below hb9k hB.lt
          have hb10 := hb.trans (hb9k.mono hbs)
          have hS9' : SpOn w9 A9 n9 s := hS9
          have hn9 : n9 ≤ 1000 := by have h1 := hS9'.len; omega
          clear kc kc8 kc9 c1 c2 kX hb8 hb8k hN8 hb9
          go_wp2_with (first
            | (go_at_call 43
               refine (HM.out _ _ _ _ _ _ _ _ _ hS10 hS9' hm hn9).mono ?_
               rintro e w11 ⟨A11, n11, c11, rfl, hN11, hb11⟩
               have hB11 := hB10.below hb11 hB10.lt
               have hbw11 := hb10.trans (hb11.mono hb10.size)))
          go_roundw
          case rel => exact ⟨i + 1, _, _, _, rfl, by omega, by go_num, by rw [ho2, e2]; exact hN11.2.2.2, hB11, hbw11⟩
          case measure => simp [RowKit.intOf]; omega
      · have hi2 : i = nl := by omega
        have e : askedX X root l nm = askF X nm o0 (l.take i) := by rw [Hres.out, hi2, List.take_of_length_le (by rw [Hpl.out]; exact Nat.le_refl _)]
        rw [← e] at hS
        have HS := hide hS
        clear hS e Hok Hres Hnx hi2
        go_wp2
        go_ret
        first | exact ⟨_, _, _, rfl, HS.out, hb⟩ | exact ⟨_, _, ⟨_, rfl⟩, HS.out, hb⟩
  | some s =>
    rw [hfr] at HF ho0
    have e0 : o0 = meetS allS s := ho0
    have hs6 := hfl s hfr
    clear ho0 hfr
    go_enter Tryz.func20, Tryz.ntmps20
    go_wp2_with (first
      | (go_at_call 41
         refine (HA.out _).mono ?_
         rintro e w1 ⟨A1, n1, c1, rfl, hS1, hb1⟩
         have hb01 := hb0.trans (hb1.mono hb0.size)
         have hB1 := b0.below hb1 b0.lt)
      | (go_at_call 42
         refine (HF.out _ hb01).mono ?_
         rintro e w2 ⟨A2, n2, c2, rfl, hS2, hb2⟩
         have hb02 := hb01.trans (hb2.mono hb01.size)
         have hB2 := hB1.below hb2 hB1.lt
         have hS2' : SpOn w2 A2 n2 s := hS2
         have hS12 : SpOn w2 A1 n1 allS := SpOn.on hS1 hb2
         have hn1 : n1 ≤ 1000 := by have h1 := hS12.len; omega
         have hn2 : n2 ≤ 1000 := by have h1 := hS2'.len; omega)
      | (go_at_call 43
         refine (HM.out _ _ _ _ _ _ _ _ _ hS12 hS2' hn1 hn2).mono ?_
         rintro e w3 ⟨A3, n3, c3, rfl, hN3, hb3⟩
         have hb03 := hb02.trans (hb3.mono hb02.size)
         have hB3 := hB2.below hb3 hB2.lt
         have hS3 : SpOn w3 A3 n3 (meetS allS s) := hN3.2.2.2))
    rw [← e0] at hS3
    clear b0 hb0 hb1 hb01 hB1 hS1 hb2 HA HF hS2 e0 hfl hb02 hB2 hS2' hS12 hn1 hn2 hN3 hb3 hs6
    go_loopw [9, 12] (fun u t wr => ∃ (i m : Nat) (Ax : Option Addr) (cx : Nat), u = .slice Ax m cx ∧ i ≤ nl ∧ t = .int .i64 (i : Int) ∧ SpOn wr Ax m (askF X nm o0 (l.take i)) ∧ Blk wr w.heap.size 35 #[.slice Ay ny cy] ∧ Below w.heap.size w wr) (fun _ t _ => nl - (RowKit.intOf t).toNat)
    case atStart => exact ⟨0, _, _, _, rfl, by omega, rfl, hS3, hB3, hb03⟩
    case round =>
      obtain ⟨i, m, Ax, cx, rfl, hi, rfl, hS, hB, hb⟩ := hrel
      have hbs := hb.size
      clear hS3 hB3 hb03
      have hm : m ≤ 1000 := by
        have h1 := hS.len
        have h2 := (Hok.out i).2
        have h3 : (l.take i).length ≤ i := by rw [List.length_take]; omega
        omega
      by_cases hlt : i < nl
      · obtain ⟨ad, q, rfl, hbl, hx, c1, c2⟩ := PkIn.at_ (PkIn.below hp hb) hlt
        have hbl2 : ad.block < wr.heap.size := by omega
        have hst := Hnx.out i q hx
        obtain ⟨x, v⟩ := q
        simp only [] at c1 c2 hst
        have HNx := hide (fun (wx : World) (hb8 : Below wr.heap.size wr wx) => HN.out wx (hb.trans (hb8.mono hbs)) x v)
        have HGx := hide (fun (Az : Option Addr) (nz cz : Nat) (wx : World) (hz : NdOn wx Az nz (needsX X x v)) => HG.out x v Az nz cz wx hz)
        have Hgx := hide (fun z hz => Hgl.out x v z hz)
        have kX := (hB.cell 0).trans (show (#[Value.slice Ay ny cy] : Array Value)[0]? = some (.slice Ay ny cy) from rfl)
        have hXlt := hB.lt
        have i1 : (0 : Int) ≤ (i : Int) := by omega
        have i2 : (i : Int) < (nl : Int) := by omega
        have Hst := hide hst
        clear hx hst HN HG Hgl Hnx Hok Hpl Hres
        generalize askF X nm o0 (l.take i) = o at *
        generalize ho2 : askF X nm o0 (l.take (i + 1)) = o2 at *
        generalize needsX X x v = N at *
        cases g : findS N nm with
        | none =>
          rw [g] at HGx Hst
          have e2 : o2 = o := Hst.out
          clear Hgx
          go_upto_region 8 with fail
          have kc : wr.cell? ⟨w.heap.size, 0, none⟩ = some (.slice Ay ny cy) ∧ wr.cell? (ad.add (i * 2)) = some (.string x) ∧ wr.cell? ⟨(ad.add (i * 2)).block, (ad.add (i * 2)).off + 1, none⟩ = some (.int .i64 v) := ⟨kX, c1, c2⟩
          go_region_held3 (fun w' => w'.cell? ⟨w.heap.size, 0, none⟩ = some (.slice Ay ny cy) ∧ w'.cell? (ad.add (i * 2)) = some (.string x) ∧ w'.cell? ⟨(ad.add (i * 2)).block, (ad.add (i * 2)).off + 1, none⟩ = some (.int .i64 v)) (first | exact kc9 | exact kc8 | exact kc | go_keep)
            (first
              | (go_at_call 36
                 refine (HNx.out _ (drewb wr)).mono ?_
                 rintro e w8 ⟨A8, n8, c8, rfl, hN8, hb8⟩
                 have hb8k : Below wr.heap.size wr w8 := (drewb wr).trans hb8
                 have kc8 : w8.cell? ⟨w.heap.size, 0, none⟩ = some (.slice Ay ny cy) ∧ w8.cell? (ad.add (i * 2)) = some (.string x) ∧ w8.cell? ⟨(ad.add (i * 2)).block, (ad.add (i * 2)).off + 1, none⟩ = some (.int .i64 v) := ⟨(hb8k.cell (p := ⟨w.heap.size, 0, none⟩) hXlt).trans kX, (hb8k.cell (p := ad.add (i * 2)) (by rw [block_of_add]; exact hbl2)).trans c1, (hb8k.cell (p := ⟨(ad.add (i * 2)).block, (ad.add (i * 2)).off + 1, none⟩) (by simp only [block_of_add]; exact hbl2)).trans c2⟩)
              | (go_at_call 42
                 refine (HGx.out _ _ _ _ hN8).mono ?_
                 rintro e w9 ⟨A9, n9, c9, rfl, hS9, hb9⟩
                 have hb9k : Below wr.heap.size wr w9 := hb8k.trans (hb9.mono hb8k.size)
                 have kc9 : w9.cell? ⟨w.heap.size, 0, none⟩ = some (.slice Ay ny cy) ∧ w9.cell? (ad.add (i * 2)) = some (.string x) ∧ w9.cell? ⟨(ad.add (i * 2)).block, (ad.add (i * 2)).off + 1, none⟩ = some (.int .i64 v) := ⟨(hb9k.cell (p := ⟨w.heap.size, 0, none⟩) hXlt).trans kX, (hb9k.cell (p := ad.add (i * 2)) (by rw [block_of_add]; exact hbl2)).trans c1, (hb9k.cell (p := ⟨(ad.add (i * 2)).block, (ad.add (i * 2)).off + 1, none⟩) (by simp only [block_of_add]; exact hbl2)).trans c2⟩))
          have hS10 := SpOn.on hS hb9k
          have hB10 := hB.below hb9k hB.lt
          have hb10 := hb.trans (hb9k.mono hbs)
          clear kc kc8 kc9 c1 c2 kX
          go_wp2
          go_roundw
          case rel => exact ⟨i + 1, _, _, _, rfl, by omega, by go_num, by rw [ho2, e2]; exact hS10, hB10, hb10⟩
          case measure => simp [RowKit.intOf]; omega
        | some s =>
          rw [g] at HGx Hst
          have e2 : o2 = meetS o s := Hst.out
          have hs6 := Hgx.out s g
          clear Hgx
          go_upto_region 8 with fail
          have kc : wr.cell? ⟨w.heap.size, 0, none⟩ = some (.slice Ay ny cy) ∧ wr.cell? (ad.add (i * 2)) = some (.string x) ∧ wr.cell? ⟨(ad.add (i * 2)).block, (ad.add (i * 2)).off + 1, none⟩ = some (.int .i64 v) := ⟨kX, c1, c2⟩
          go_region_held3 (fun w' => w'.cell? ⟨w.heap.size, 0, none⟩ = some (.slice Ay ny cy) ∧ w'.cell? (ad.add (i * 2)) = some (.string x) ∧ w'.cell? ⟨(ad.add (i * 2)).block, (ad.add (i * 2)).off + 1, none⟩ = some (.int .i64 v)) (first | exact kc9 | exact kc8 | exact kc | go_keep)
            (first
              | (go_at_call 36
                 refine (HNx.out _ (drewb wr)).mono ?_
                 rintro e w8 ⟨A8, n8, c8, rfl, hN8, hb8⟩
                 have hb8k : Below wr.heap.size wr w8 := (drewb wr).trans hb8
                 have kc8 : w8.cell? ⟨w.heap.size, 0, none⟩ = some (.slice Ay ny cy) ∧ w8.cell? (ad.add (i * 2)) = some (.string x) ∧ w8.cell? ⟨(ad.add (i * 2)).block, (ad.add (i * 2)).off + 1, none⟩ = some (.int .i64 v) := ⟨(hb8k.cell (p := ⟨w.heap.size, 0, none⟩) hXlt).trans kX, (hb8k.cell (p := ad.add (i * 2)) (by rw [block_of_add]; exact hbl2)).trans c1, (hb8k.cell (p := ⟨(ad.add (i * 2)).block, (ad.add (i * 2)).off + 1, none⟩) (by simp only [block_of_add]; exact hbl2)).trans c2⟩)
              | (go_at_call 42
                 refine (HGx.out _ _ _ _ hN8).mono ?_
                 rintro e w9 ⟨A9, n9, c9, rfl, hS9, hb9⟩
                 have hb9k : Below wr.heap.size wr w9 := hb8k.trans (hb9.mono hb8k.size)
                 have kc9 : w9.cell? ⟨w.heap.size, 0, none⟩ = some (.slice Ay ny cy) ∧ w9.cell? (ad.add (i * 2)) = some (.string x) ∧ w9.cell? ⟨(ad.add (i * 2)).block, (ad.add (i * 2)).off + 1, none⟩ = some (.int .i64 v) := ⟨(hb9k.cell (p := ⟨w.heap.size, 0, none⟩) hXlt).trans kX, (hb9k.cell (p := ad.add (i * 2)) (by rw [block_of_add]; exact hbl2)).trans c1, (hb9k.cell (p := ⟨(ad.add (i * 2)).block, (ad.add (i * 2)).off + 1, none⟩) (by simp only [block_of_add]; exact hbl2)).trans c2⟩))
          have hS10 := SpOn.on hS hb9k
          have hB10 := hB.below hb9k hB.lt
          have hb10 := hb.trans (hb9k.mono hbs)
          have hS9' : SpOn w9 A9 n9 s := hS9
          have hn9 : n9 ≤ 1000 := by have h1 := hS9'.len; omega
          clear kc kc8 kc9 c1 c2 kX hb8 hb8k hN8 hb9
          go_wp2_with (first
            | (go_at_call 43
               refine (HM.out _ _ _ _ _ _ _ _ _ hS10 hS9' hm hn9).mono ?_
               rintro e w11 ⟨A11, n11, c11, rfl, hN11, hb11⟩
               have hB11 := hB10.below hb11 hB10.lt
               have hbw11 := hb10.trans (hb11.mono hb10.size)))
          go_roundw
          case rel => exact ⟨i + 1, _, _, _, rfl, by omega, by go_num, by rw [ho2, e2]; exact hN11.2.2.2, hB11, hbw11⟩
          case measure => simp [RowKit.intOf]; omega
      · have hi2 : i = nl := by omega
        have e : askedX X root l nm = askF X nm o0 (l.take i) := by rw [Hres.out, hi2, List.take_of_length_le (by rw [Hpl.out]; exact Nat.le_refl _)]
        rw [← e] at hS
        have HS := hide hS
        clear hS e Hok Hres Hnx hi2
        go_wp2
        go_ret
        first | exact ⟨_, _, _, rfl, HS.out, hb⟩ | exact ⟨_, _, ⟨_, rfl⟩, HS.out, hb⟩
end
end Go.Proofs.YtmoeilkaadnnoaaGreat.Plain
