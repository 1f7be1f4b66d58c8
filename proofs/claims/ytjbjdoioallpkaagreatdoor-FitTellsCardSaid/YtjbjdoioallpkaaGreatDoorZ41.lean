/-
  Some texts of this claim, one behind the other: FitRefWrong. What each proves, and its condition, stands at its head.
-/
import Derived.Test.YtjbjdoioallpkaaGreatDoorZ40
import Derived.Test.YtjbjdoioallpkaaGreatDoorZ34
import Derived.Deep.RegionHeld3
/-
  The contract of the document's Wrong: what is wrong with picks as a solution. Condition: at most 40 needs that may be, 60 picks; what is known is looked at.
-/
namespace Go.Proofs.YtjbjdoioallpkaaGreatDoor.Fit
open Go Go.RowKit Go.Lib Go.Sort Go.Proofs.YtjbjdoioallpkaaGreatDoor.Span Go.Proofs.YtjbjdoioallpkaaGreatDoor.Need Go.Proofs.YtjbjdoioallpkaaGreatDoor.Mani Go.Proofs.YtjbjdoioallpkaaGreatDoor.Wire Go.Proofs.YtjbjdoioallpkaaGreatDoor.Depot Go.Proofs.YtjbjdoioallpkaaGreatDoor.Index Go.Proofs.YtjbjdoioallpkaaGreatDoor.Reach Go.Proofs.YtjbjdoioallpkaaGreatDoor.Pick
set_option linter.unusedVariables false
/-- The first rule, from one on, that is not so of a pick, and that pick. -/
def scanX (br : Int → Pk → Bool) (l : List Pk) : List Int → Int × ByteArray
  | [] => (0, ByteArray.empty)
  | r :: rs => match l.find? (br r) with
    | some p => (r, p.1)
    | none => scanX br l rs
def rulesFrom (k : Nat) : List Int := ([3, 4, 5] : List Int).drop k
def fromX (br : Int → Pk → Bool) (l : List Pk) (k i : Nat) : Int × ByteArray := match (l.drop i).find? (br (3 + (k : Int))) with
  | some p => (3 + (k : Int), p.1)
  | none => scanX br l (rulesFrom (k + 1))
theorem from_start (br : Int → Pk → Bool) (l : List Pk) : ∀ k, k < 3 → scanX br l (rulesFrom k) = fromX br l k 0
  | 0, _ => rfl
  | 1, _ => rfl
  | 2, _ => rfl
theorem from_hit {br : Int → Pk → Bool} {l : List Pk} {k i : Nat} {p : Pk} (h : l[i]? = some p) (g : br (3 + (k : Int)) p = true) : fromX br l k i = (3 + (k : Int), p.1) := by
  obtain ⟨hi, e⟩ := List.getElem?_eq_some_iff.1 h
  unfold fromX
  rw [List.drop_eq_getElem_cons hi, e, List.find?_cons_of_pos g]
theorem from_miss {br : Int → Pk → Bool} {l : List Pk} {k i : Nat} {p : Pk} (h : l[i]? = some p) (g : br (3 + (k : Int)) p = false) : fromX br l k i = fromX br l k (i + 1) := by
  obtain ⟨hi, e⟩ := List.getElem?_eq_some_iff.1 h
  unfold fromX
  rw [List.drop_eq_getElem_cons hi, e, List.find?_cons_of_neg (by rw [g]; simp)]
theorem from_end {br : Int → Pk → Bool} {l : List Pk} {k i : Nat} (h : l.length ≤ i) : fromX br l k i = scanX br l (rulesFrom (k + 1)) := by
  unfold fromX
  rw [List.drop_of_length_le h]
  rfl
/-- What is wrong, behind the check and the root's needs. -/
def restX (X : List Kn) (root : List Nd) (l : List Pk) : Int × ByteArray := scanX (brokenX X l (neededX X root l)) l (rulesFrom 0)
def rootX (X : List Kn) (root : List Nd) (l : List Pk) (i : Nat) : Int × ByteArray := match (root.drop i).find? fun q : Nd => !metP l q with
  | some q => (2, q.1)
  | none => restX X root l
theorem root_hit {X : List Kn} {root : List Nd} {l : List Pk} {i : Nat} {q : Nd} (h : root[i]? = some q) (g : metP l q = false) : rootX X root l i = (2, q.1) := by
  obtain ⟨hi, e⟩ := List.getElem?_eq_some_iff.1 h
  unfold rootX
  rw [List.drop_eq_getElem_cons hi, e, List.find?_cons_of_pos (by rw [g]; rfl)]
theorem root_miss {X : List Kn} {root : List Nd} {l : List Pk} {i : Nat} {q : Nd} (h : root[i]? = some q) (g : metP l q = true) : rootX X root l i = rootX X root l (i + 1) := by
  obtain ⟨hi, e⟩ := List.getElem?_eq_some_iff.1 h
  unfold rootX
  rw [List.drop_eq_getElem_cons hi, e, List.find?_cons_of_neg (by rw [g]; simp)]
theorem root_end {X : List Kn} {root : List Nd} {l : List Pk} {i : Nat} (h : root.length ≤ i) : rootX X root l i = restX X root l := by
  unfold rootX
  rw [List.drop_of_length_le h]
  rfl
theorem wrong_bad {X : List Kn} {root : List Nd} {l : List Pk} (h : okP l = false) : wrongX X root l = (1, ByteArray.empty) := by unfold wrongX; rw [if_pos h]
theorem wrong_ok {X : List Kn} {root : List Nd} {l : List Pk} (h : okP l = true) : wrongX X root l = rootX X root l 0 := by
  unfold wrongX rootX
  rw [if_neg (by rw [h]; simp), List.drop_zero]
  cases root.find? fun q : Nd => !metP l q with
  | some q => rfl
  | none =>
    show _ = scanX (brokenX X l (neededX X root l)) l [3, 4, 5]
    have e3 : brokenX X l (neededX X root l) 3 = lacksX X := rfl
    have e4 : brokenX X l (neededX X root l) 4 = unmetX X l := rfl
    have e5 : brokenX X l (neededX X root l) 5 = fun p : Pk => !memB p.1 (neededX X root l) := rfl
    simp only [scanX, e3, e4, e5]
    cases l.find? (lacksX X) with
    | some p => rfl
    | none =>
      simp only []
      cases l.find? (unmetX X l) with
      | some p => rfl
      | none => rfl
section
variable (X : List Kn) (root : List Nd) (l : List Pk) (Ay : Option Addr) (ny cy : Nat) (A : Option Addr) (n c : Nat) (Al : Option Addr) (nl cl : Nat) (w : World)
theorem broken_any {N : List ByteArray} {An : Option Addr} {nn cn : Nat} (k : Nat) (hk : k < 3) (p : Pk) (h : InK w Ay ny X) (hn : ny ≤ 1000000) (hf : FineX X) (hs : SetX X) (hp : PkOn w Al nl l) (hnl : nl ≤ 1000) (hT : TxOn w An nn N) (hr : RisesN N) (hnn : nn ≤ 1000) :
    Calls Tryz.prog 26 #[.agg #[.slice Ay ny cy], .slice Al nl cl, .agg #[.string p.1, .int .i64 p.2], .int .i64 (3 + (k : Int)), .slice An nn cn] w fun e w' => e = .returned (.bool (brokenX X l N (3 + (k : Int)) p)) ∧ Below w.heap.size w w' := by
  match k, hk with
  | 0, _ => exact broken3_any X p.1 p.2 Ay ny cy Al nl cl An nn cn w h hn hf
  | 1, _ => exact broken4_any X l p.1 p.2 Ay ny cy Al nl cl An nn cn w h hn hf hs hp hnl
  | 2, _ => exact broken5_any N p.1 p.2 Ay ny cy Al nl cl An nn cn w hT hr hnn
set_option maxHeartbeats 8000000 in
set_option maxRecDepth 100000 in
theorem refWrong_any (hK : InK w Ay ny X) (hXl : ny ≤ 1000000) (hf : FineX X) (hs : SetX X) (h : NdOn w A n root) (hn : n ≤ 40) (hrs : ∀ q ∈ root, isSet (-1) q.2 = true ∧ q.2.length ≤ 1000000001) (hp : PkOn w Al nl l) (hnl : nl ≤ 60) (hln : ∀ q ∈ l, q.1.size ≤ 1000000000) :
    Calls Tryz.prog 12 #[.agg #[.slice Ay ny cy], .slice A n c, .slice Al nl cl] w fun e w' => e = .returned (.tuple #[.int .i64 (wrongX X root l).1, .string (wrongX X root l).2]) ∧ Below w.heap.size w w' := by
  have hb0 := alloc_b w (.cells #[.slice Ay ny cy] 33)
  have hBX := Blk.new w 33 #[.slice Ay ny cy]
  have HC := hide (fun wx (hx : Below w.heap.size w wx) => refCheckP_any l Al nl cl wx (hp.on hx) hln (by omega))
  have HM := hide (fun (q : Nd) (hq : q ∈ root) (A' : Option Addr) (n' c' : Nat) (wx : World) (hx : Below w.heap.size w wx) (hsq : SpOn wx A' n' q.2) => refMet_any l q.1 q.2 Al A' nl cl n' c' wx (hp.on hx) hsq (by omega) (by have := hsq.len; have := (hrs q hq).2; omega) (hrs q hq).1)
  have HN := hide (fun wx (hx : Below w.heap.size w wx) => refNeeded_any X root l Ay ny cy A n c Al nl cl wx (hK.below hx) hf hs hXl (h.on hx) hn (hp.on hx) hnl)
  unfold MakesT at HN
  have hnr := needed_ok X root l
  have Hnlen := hide (len_may (X := X) (root := root) (l := l) hs (by rw [h.len]; exact hn) (by rw [hp.len]; exact hnl) hnr.1 fun z hz => (hnr.2 z).1 hz)
  have HB := hide (fun (k : Nat) (hk : k < 3) (p : Pk) (An : Option Addr) (nn cn : Nat) (wx : World) (hx : Below w.heap.size w wx) (hT : TxOn wx An nn (neededX X root l)) (hnn : nn ≤ 1000) => broken_any X l Ay ny cy Al nl cl wx (An := An) (nn := nn) (cn := cn) k hk p (hK.below hx) hXl hf hs (hp.on hx) (by omega) hT hnr.1 hnn)
  cases hok : okP l with
  | false =>
    rw [hok] at HC
    rw [wrong_bad hok]
    clear h hp hK hf hs hrs hln hok hnr
    go_enter Tryz.func12, Tryz.ntmps12
    go_wp2_with (go_at_call 14
                 refine (HC.out _ hb0).mono ?_
                 rintro e w1 ⟨rfl, hb1⟩)
    go_ret2
    exact ⟨rfl, hb0.trans (hb1.mono hb0.size)⟩
  | true =>
    rw [hok] at HC
    rw [wrong_ok hok]
    obtain ⟨res, hres⟩ : ∃ res, res = rootX X root l 0 := ⟨_, rfl⟩
    rw [← hres]
    have Hres := hide hres
    have Hlen := hide h.len
    have Hpl := hide hp.len
    have Hhit := hide (fun i q => @root_hit X root l i q)
    have Hmiss := hide (fun i q => @root_miss X root l i q)
    have Hend : Hid (rootX X root l n = scanX (brokenX X l (neededX X root l)) l (rulesFrom 0)) := hide (root_end (by rw [h.len]; exact Nat.le_refl _))
    clear hK hf hs hrs hln hok hres hnr
    go_enter Tryz.func12, Tryz.ntmps12
    go_upto_region 3 with (first
      | (go_at_call 14
         refine (HC.out _ hb0).mono ?_
         rintro e w1 ⟨rfl, hb1⟩))
    have hb01 := hb0.trans (hb1.mono hb0.size)
    have hbX1 := hBX.below hb1 hBX.lt
    have hgX := hbX1.lt
    clear hb0 hb1 hBX HC
    obtain ⟨W1, hW1⟩ : ∃ W1, W1 = w1 := ⟨w1, rfl⟩
    subst hW1
    go_wp2
    go_loopw [8] (fun u wr => ∃ i : Nat, i ≤ n ∧ u = .int .i64 (i : Int) ∧ Hid (res = rootX X root l i) ∧ Below W1.heap.size W1 wr) (fun u _ => n - (RowKit.intOf u).toNat)
    case atStart => exact ⟨0, by omega, rfl, Hres, Below.refl _ _⟩
    case round =>
      obtain ⟨i, hi, rfl, hf, hbq⟩ := hrel
      have hbqs := hbq.size
      have hbw := hb01.trans (hbq.mono hb01.size)
      clear Hres
      by_cases hlt : i < n
      · obtain ⟨ad, q, A', n', c', rfl, hbl, hx, hsq, c1, c2⟩ := NdIn.at_ (NdIn.below h hbw) hlt
        have hbws := hbw.size
        have HQ := hide (HM.out q (List.mem_of_getElem? hx) A' n' c' wr hbw (SpIn.more hsq hbws))
        have hh := Hhit.out i q hx
        have hm := Hmiss.out i q hx
        obtain ⟨x, s⟩ := q
        simp only [] at c1 c2 HQ hh hm
        clear hx hsq
        cases g : metP l (x, s) with
        | false =>
          have e : Hid (res = (2, x)) := hide (hf.out.trans (hh g))
          rw [g] at HQ
          clear hf hh hm g
          have i1 : (0 : Int) ≤ (i : Int) := by omega
          have i2 : (i : Int) < (n : Int) := by omega
          go_upto_region 7 with (first
            | (go_at_call 25
               refine HQ.out.mono ?_
               rintro e w2 ⟨rfl, hb2⟩
               have c3 := (hb2.cell (p := ad.add (i * 2)) (by rw [block_of_add]; omega)).trans c1))
          clear c1 c2
          go_quiet (fail)
          go_wp2
          go_ret2
          exact ⟨by rw [e.out]; rfl, below_drewN (hbw.trans (hb2.mono hbws)) _⟩
        | true =>
          have e : Hid (res = rootX X root l (i + 1)) := hide (hf.out.trans (hm g))
          rw [g] at HQ
          clear hf hh hm g
          go_wp2_with (go_at_call 25
                       refine HQ.out.mono ?_
                       rintro e w2 ⟨rfl, hb2⟩
                       have hbq2 := hbq.trans (hb2.mono hbqs))
          go_roundw
          case rel => exact ⟨i + 1, by omega, by go_num, e, hbq2⟩
          case measure => simp [RowKit.intOf]; omega
      · have hin : i = n := by omega
        have hf2 : Hid (res = scanX (brokenX X l (neededX X root l)) l (rulesFrom 0)) := hide (by rw [hf.out, hin, Hend.out])
        have hnlt : ¬ i < n := hlt
        clear hf hin Hend Hhit Hmiss HM
        have kX := ((hbX1.below hbq hgX).cell 0).trans (show (#[Value.slice Ay ny cy] : Array Value)[0]? = some (.slice Ay ny cy) from rfl)
        go_upto_region 9 with (first
          | (go_at_call 17
             refine (HN.out _ hbw).mono ?_
             rintro e w5 ⟨An, nn, cn, rfl, hT5, hb5⟩))
        have hb05 := hbw.trans (hb5.mono hbw.size)
        have hbX5 := (hbX1.below hbq hgX).below hb5 (by have := hbqs; omega)
        have hgX5 := hbX5.lt
        have hnn : nn ≤ 400 := by rw [← hT5.len]; exact Hnlen.out
        clear HN Hnlen kX hbX1 hgX hbq hbqs hbw hb5 hb01
        generalize neededX X root l = N at *
        generalize hbr : brokenX X l N = br at *
        clear hbr
        obtain ⟨W5, hW5⟩ : ∃ W5, W5 = w5 := ⟨w5, rfl⟩
        subst hW5
        go_wp2
        go_loopw [10] (fun u wr => ∃ (k : Nat) (r : Int), k ≤ 3 ∧ u = .int .i64 r ∧ Hid (r = 3 + (k : Int)) ∧ 3 ≤ r ∧ r ≤ 6 ∧ Hid (res = scanX br l (rulesFrom k)) ∧ Below W5.heap.size W5 wr) (fun u _ => (6 - RowKit.intOf u).toNat)
        case atStart => exact ⟨0, 3, by omega, rfl, hide rfl, by omega, by omega, hf2, Below.refl _ _⟩
        case round =>
          obtain ⟨k, r, hk, rfl, Hr, hr3, hr6, hf, hbq⟩ := hrel
          have hbqs := hbq.size
          have hbw := hb05.trans (hbq.mono hb05.size)
          clear hf2
          by_cases hr5 : r ≤ 5
          · have hk3 : k < 3 := by have := Hr.out; omega
            have hs0 : Hid (res = fromX br l k 0) := hide (by rw [hf.out, from_start br l k hk3])
            have Hhit := hide (fun i p => @from_hit br l k i p)
            have Hmiss := hide (fun i p => @from_miss br l k i p)
            have Hend2 : Hid (fromX br l k nl = scanX br l (rulesFrom (k + 1))) := hide (from_end (by rw [Hpl.out]; exact Nat.le_refl _))
            have HBr := hide (fun (p : Pk) (wx : World) (hx : Below w.heap.size w wx) (hT : TxOn wx An nn N) => show Calls Tryz.prog 26 #[.agg #[.slice Ay ny cy], .slice Al nl cl, .agg #[.string p.1, .int .i64 p.2], .int .i64 r, .slice An nn cn] wx fun e w' => e = .returned (.bool (br r p)) ∧ Below wx.heap.size wx w' by
              rw [Hr.out]; exact HB.out k hk3 p An nn cn wx hx hT (by omega))
            rw [← Hr.out] at Hhit Hmiss
            have hbX6 := hbX5.below hbq hgX5
            have hgX6 := hbX6.lt
            have hT6 := hT5.on hbq
            obtain ⟨W6, hW6⟩ : ∃ W6, W6 = wr := ⟨wr, rfl⟩
            subst hW6
            clear hf
            go_wp2
            go_loopw [11] (fun u wq => ∃ i : Nat, i ≤ nl ∧ u = .int .i64 (i : Int) ∧ Hid (res = fromX br l k i) ∧ Below W6.heap.size W6 wq) (fun u _ => nl - (RowKit.intOf u).toNat)
            case atStart => exact ⟨0, by omega, rfl, hs0, Below.refl _ _⟩
            case round =>
              obtain ⟨i, hi, rfl, hf, hbz⟩ := hrel
              have hbzs := hbz.size
              have hbx := hbw.trans (hbz.mono hbw.size)
              clear hs0
              by_cases hlt : i < nl
              · obtain ⟨ad, p, rfl, hbl, hx, c1, c2⟩ := PkIn.at_ (PkIn.below hp hbx) hlt
                have hbl2 : ad.block < wr.heap.size := by have := hbx.size; omega
                have HB1 := hide (fun wx hx hT => HBr.out p wx hx hT)
                have hh := Hhit.out i p hx
                have hm := Hmiss.out i p hx
                obtain ⟨x, v⟩ := p
                simp only [] at c1 c2 HB1 hh hm
                have kX := ((hbX6.below hbz hgX6).cell 0).trans (show (#[Value.slice Ay ny cy] : Array Value)[0]? = some (.slice Ay ny cy) from rfl)
                have hXlt : w.heap.size < wr.heap.size := by omega
                have hT7 := hT6.on hbz
                have i1 : (0 : Int) ≤ (i : Int) := by omega
                have i2 : (i : Int) < (nl : Int) := by omega
                clear hx
                cases g : br r (x, v) with
                | true =>
                  have e : Hid (res = (r, x)) := hide (hf.out.trans (hh g))
                  rw [g] at HB1
                  clear hf hh hm g
                  go_upto_region 15 with fail
                  have kc : wr.cell? ⟨w.heap.size, 0, none⟩ = some (.slice Ay ny cy) ∧ wr.cell? (ad.add (i * 2)) = some (.string x) ∧ wr.cell? ⟨(ad.add (i * 2)).block, (ad.add (i * 2)).off + 1, none⟩ = some (.int .i64 v) := ⟨kX, c1, c2⟩
                  go_region_held3 (fun w' => w'.cell? ⟨w.heap.size, 0, none⟩ = some (.slice Ay ny cy) ∧ w'.cell? (ad.add (i * 2)) = some (.string x) ∧ w'.cell? ⟨(ad.add (i * 2)).block, (ad.add (i * 2)).off + 1, none⟩ = some (.int .i64 v)) (first | exact kc8 | exact kc | go_keep)
                    (first
                      | (go_at_call 26
                         refine (HB1.out _ ?_ ?_).mono ?_
                         · exact hbx.drew
                         · exact hT7
                         rintro e w8 ⟨rfl, hb8⟩
                         have hb8' : Below wr.heap.size wr w8 := ((Below.refl _ _).drew).trans hb8
                         have kc8 : w8.cell? ⟨w.heap.size, 0, none⟩ = some (.slice Ay ny cy) ∧ w8.cell? (ad.add (i * 2)) = some (.string x) ∧ w8.cell? ⟨(ad.add (i * 2)).block, (ad.add (i * 2)).off + 1, none⟩ = some (.int .i64 v) :=
                           ⟨(hb8'.cell (p := ⟨w.heap.size, 0, none⟩) hXlt).trans kX, (hb8'.cell (p := ad.add (i * 2)) (by rw [block_of_add]; exact hbl2)).trans c1, (hb8'.cell (p := ⟨(ad.add (i * 2)).block, (ad.add (i * 2)).off + 1, none⟩) (by simp only [block_of_add]; exact hbl2)).trans c2⟩))
                  have c3 := kc8.2.1
                  clear kc kc8 c1 c2 kX
                  go_upto_region 16 with fail
                  go_quiet (fail)
                  go_wp2
                  go_ret2
                  exact ⟨by rw [e.out]; rfl, below_drewN (hbx.trans (hb8'.mono hbx.size)) _⟩
                | false =>
                  have e : Hid (res = fromX br l k (i + 1)) := hide (hf.out.trans (hm g))
                  rw [g] at HB1
                  clear hf hh hm g
                  go_upto_region 15 with fail
                  have kc : wr.cell? ⟨w.heap.size, 0, none⟩ = some (.slice Ay ny cy) ∧ wr.cell? (ad.add (i * 2)) = some (.string x) ∧ wr.cell? ⟨(ad.add (i * 2)).block, (ad.add (i * 2)).off + 1, none⟩ = some (.int .i64 v) := ⟨kX, c1, c2⟩
                  go_region_held3 (fun w' => w'.cell? ⟨w.heap.size, 0, none⟩ = some (.slice Ay ny cy) ∧ w'.cell? (ad.add (i * 2)) = some (.string x) ∧ w'.cell? ⟨(ad.add (i * 2)).block, (ad.add (i * 2)).off + 1, none⟩ = some (.int .i64 v)) (first | exact kc8 | exact kc | go_keep)
                    (first
                      | (go_at_call 26
                         refine (HB1.out _ ?_ ?_).mono ?_
                         · exact hbx.drew
                         · exact hT7
                         rintro e w8 ⟨rfl, hb8⟩
                         have hb8' : Below wr.heap.size wr w8 := ((Below.refl _ _).drew).trans hb8
                         have kc8 : w8.cell? ⟨w.heap.size, 0, none⟩ = some (.slice Ay ny cy) ∧ w8.cell? (ad.add (i * 2)) = some (.string x) ∧ w8.cell? ⟨(ad.add (i * 2)).block, (ad.add (i * 2)).off + 1, none⟩ = some (.int .i64 v) :=
                           ⟨(hb8'.cell (p := ⟨w.heap.size, 0, none⟩) hXlt).trans kX, (hb8'.cell (p := ad.add (i * 2)) (by rw [block_of_add]; exact hbl2)).trans c1, (hb8'.cell (p := ⟨(ad.add (i * 2)).block, (ad.add (i * 2)).off + 1, none⟩) (by simp only [block_of_add]; exact hbl2)).trans c2⟩))
                  have hbz8 := hbz.trans (hb8'.mono hbzs)
                  clear kc kc8 c1 c2 kX
                  go_wp2
                  go_roundw
                  case rel => exact ⟨i + 1, by omega, by go_num, e, hbz8⟩
                  case measure => simp [RowKit.intOf]; omega
              · have hin : i = nl := by omega
                have e : Hid (res = scanX br l (rulesFrom (k + 1))) := hide (by rw [hf.out, hin, Hend2.out])
                have hnl2 : ¬ i < nl := hlt
                have hbq2 := hbq.trans (hbz.mono hbqs)
                clear hf hin Hend2 Hhit Hmiss
                go_wp2
                go_roundw
                case rel => exact ⟨k + 1, r + 1, by omega, by go_num, hide (by rw [Hr.out]; omega), by omega, by omega, e, hbq2⟩
                case measure => simp [RowKit.intOf]; omega
          · have hk3 : k = 3 := by have := Hr.out; omega
            have e : Hid (res = (0, ByteArray.empty)) := hide (by rw [hf.out, hk3]; rfl)
            clear hf hk3
            go_wp2
            go_ret2
            exact ⟨by rw [e.out]; rfl, hbw⟩
end
end Go.Proofs.YtjbjdoioallpkaaGreatDoor.Fit
