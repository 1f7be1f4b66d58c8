/-
  Some texts of this claim, one behind the other: FitSpec, FitRel, FitNeed. What each proves, and its condition, stands at its head.
-/
import Derived.Test.YtdmejcfnolhplaaGreatDoorZC32
import Derived.Test.YtdmejcfnolhplaaGreatDoorZC28
import Derived.Test.YtdmejcfnolhplaaGreatDoorZC44
import Derived.Test.YtdmejcfnolhplaaGreatDoorZC16
import Derived.Test.YtdmejcfnolhplaaGreatDoorZC29
import Derived.Test.YtdmejcfnolhplaaGreatDoorZC14
import Derived.Test.YtdmejcfnolhplaaGreatDoorZC21
import Derived.Test.YtdmejcfnolhplaaGreatDoorZC39
import Derived.Test.YtdmejcfnolhplaaGreatDoorZC38
/-
  What the program's Wrong, Solution and Needed have to tell, as premises of the laws' walks: each is a contract of the program's own code (a later text proves it). No condition.
-/
namespace Go.Proofs.YtdmejcfnolhplaaGreatDoor.Fit
open Go Go.RowKit Go.Lib Go.Proofs.YtdmejcfnolhplaaGreatDoor.Span Go.Proofs.YtdmejcfnolhplaaGreatDoor.Need Go.Proofs.YtdmejcfnolhplaaGreatDoor.Mani Go.Proofs.YtdmejcfnolhplaaGreatDoor.Wire Go.Proofs.YtdmejcfnolhplaaGreatDoor.Depot Go.Proofs.YtdmejcfnolhplaaGreatDoor.Index Go.Proofs.YtdmejcfnolhplaaGreatDoor.Reach Go.Proofs.YtdmejcfnolhplaaGreatDoor.Pick
open Go.Proofs.YtdmejcfnolhplaaGreatDoor.Ver (Units)
set_option linter.unusedVariables false
abbrev IsP (pv : Value) : Prop := ∃ o : Option Addr, pv = .pointer o
def AskedF (X : List Kn) (root : List Nd) (l : List Pk) (pv : Value) (A : Option Addr) (n : Nat) (Al : Option Addr) (nl cl : Nat) (w : World) : Prop :=
  (IsP pv ∧ TellsX w pv X) ∧ FineX X ∧ SetX X ∧ X.length ≤ 100 ∧ NdOn w A n root ∧ n ≤ 40 ∧ okS root = true ∧ (∀ q ∈ root, q.1.size ≤ 100) ∧ PkOn w Al nl l ∧ nl ≤ cl ∧ nl ≤ 60 ∧ (∀ q ∈ l, q.1.size ≤ 200) ∧ Units w
theorem AskedF.on {X : List Kn} {root : List Nd} {l : List Pk} {pv : Value} {A : Option Addr} {n : Nat} {Al : Option Addr} {nl cl : Nat} {w w' : World} (h : AskedF X root l pv A n Al nl cl w) (hb : Below w.heap.size w w') : AskedF X root l pv A n Al nl cl w' := by
  obtain ⟨h1, h2, h3, h4, h5, h6, h7, h8, h9, h10, h11, h12, h13⟩ := h
  exact ⟨⟨h1.1, h1.2.on hb⟩, h2, h3, h4, h5.on hb, h6, h7, h8, h9.on hb, h10, h11, h12, h13.below hb⟩
def SpecWrong : Prop := ∀ (X : List Kn) (root : List Nd) (l : List Pk) (pv : Value) (A : Option Addr) (n c : Nat) (Al : Option Addr) (nl cl : Nat) (w : World), AskedF X root l pv A n Al nl cl w →
  Calls Tryz.prog 21 #[pv, .slice A n c, .slice Al nl cl] w fun e w' => e = .returned (.tuple #[.int .i64 (wrongX X root l).1, .string (wrongX X root l).2]) ∧ Below w.heap.size w w'
def SpecSol : Prop := ∀ (X : List Kn) (root : List Nd) (l : List Pk) (pv : Value) (A : Option Addr) (n c : Nat) (Al : Option Addr) (nl cl : Nat) (w : World), AskedF X root l pv A n Al nl cl w →
  Calls Tryz.prog 12 #[pv, .slice A n c, .slice Al nl cl] w fun e w' => e = .returned (.bool (solX X root l)) ∧ Below w.heap.size w w'
def SpecNeeded : Prop := ∀ (X : List Kn) (root : List Nd) (l : List Pk) (pv : Value) (A : Option Addr) (n c : Nat) (Al : Option Addr) (nl cl : Nat) (w : World), AskedF X root l pv A n Al nl cl w → okP l = true →
  Calls Tryz.prog 68 #[pv, .slice A n c, .slice Al nl cl] w (MakesT w (neededX X root l))
end Go.Proofs.YtdmejcfnolhplaaGreatDoor.Fit
/-
  Contracts of the program's release and unmet: the release of a pick that an index has; the first need that picks do not meet. Condition: what is known is looked at; the picks' names rise.
-/
namespace Go.Proofs.YtdmejcfnolhplaaGreatDoor.Fit
open Go Go.RowKit Go.Lib Go.Proofs.YtdmejcfnolhplaaGreatDoor.Span Go.Proofs.YtdmejcfnolhplaaGreatDoor.Need Go.Proofs.YtdmejcfnolhplaaGreatDoor.Mani Go.Proofs.YtdmejcfnolhplaaGreatDoor.Wire Go.Proofs.YtdmejcfnolhplaaGreatDoor.Depot Go.Proofs.YtdmejcfnolhplaaGreatDoor.Index Go.Proofs.YtdmejcfnolhplaaGreatDoor.Reach Go.Proofs.YtdmejcfnolhplaaGreatDoor.Pick
set_option linter.unusedVariables false
set_option maxHeartbeats 4000000 in
set_option maxRecDepth 100000 in
theorem release_any (X : List Kn) (nm : ByteArray) (v : Int) (pv : Value) (w : World) (hX : TellsX w pv X) (hf : FineX X) (hnm : nm.size ≤ 1000000000) :
    Calls Tryz.prog 66 #[pv, .agg #[.string nm, .int .i64 v]] w (GetsI w (relX X nm v)) := by
  unfold GetsI
  have HG := hide (fun (wx : World) (hx : Below w.heap.size w wx) => (hX nm wx hx hnm).1)
  unfold Gots at HG
  have HR := hide (fun (Ax : Option Addr) (nx cx : Nat) (wx : World) (hx : RlOn wx Ax nx (getX X nm).1) => getI_any v nm (getX X nm).1 Ax nx cx wx hx (hf.get nm))
  unfold GetsI at HR
  have eN : relX X nm v = getR (getX X nm).1 v := rfl
  rw [eN]
  clear eN hf hX hnm
  generalize (getX X nm).2 = g2 at *
  generalize (getX X nm).1 = rl at *
  generalize (getR rl v) = r at *
  obtain ⟨W0, hW0⟩ : ∃ W0, W0 = (w.alloc (.cells #[.string nm, .int .i64 v] 50)).alloc (.cells #[.int .i64 0, .slice none 0 0] 123) := ⟨_, rfl⟩
  have hb0 : Below w.heap.size w W0 := by rw [hW0]; exact (alloc_b w _).alloc (by simp) _
  have hB0 : Blk W0 w.heap.size 50 #[.string nm, .int .i64 v] := by
    rw [hW0]
    exact (Blk.new w 50 #[.string nm, .int .i64 v]).alloc _
  have hB1 : Blk W0 (w.heap.size + 1) 123 #[.int .i64 0, .slice none 0 0] := by
    rw [hW0]
    have := Blk.new (w.alloc (.cells #[.string nm, .int .i64 v] 50)) 123 #[.int .i64 0, .slice none 0 0]
    rwa [World.size_alloc] at this
  have k0 : W0.cell? ⟨w.heap.size, 0, none⟩ = some (.string nm) := (hB0.cell 0).trans rfl
  have hg0 := hB0.lt
  have hg1 := hB1.lt
  go_enter Tryz.func66, Tryz.ntmps66
  go_upto_region 1 with fail
  rw [← hW0]
  clear hW0
  have hge : w.heap.size ≤ w.heap.size + 1 := by omega
  generalize w.heap.size + 1 = g5 at *
  go_upto_region 2 with (first
    | (go_at_call 85
       refine (HG.out _ hb0).mono ?_
       rintro e w1 ⟨A1, n1, c1, B1, rs1, rfl, hR1, hb1⟩))
  have hb01 := hb0.trans (hb1.mono hb0.size)
  have hB2 := hB0.below hb1 hg0
  have hB3 := hB1.below hb1 hg1
  obtain ⟨W1, hW1⟩ : ∃ W1, W1 = w1.alloc (.cells #[.string nm, .slice A1 n1 c1] 96) := ⟨_, rfl⟩
  have hM1 : Blk W1 w1.heap.size 96 #[.string nm, .slice A1 n1 c1] := by rw [hW1]; exact Blk.new _ _ _
  have hB4 : Blk W1 w.heap.size 50 #[.string nm, .int .i64 v] := by rw [hW1]; exact hB2.alloc _
  have hB5 : Blk W1 g5 123 #[.int .i64 0, .slice none 0 0] := by rw [hW1]; exact hB3.alloc _
  have hR2 : RlOn W1 A1 n1 rl := by rw [hW1]; exact (hR1.below (alloc_b _ _)).on
  have hb02 : Below w.heap.size w W1 := by rw [hW1]; exact hb01.alloc hb01.size _
  rw [← hW1]
  have p0 := (hM1.cell 0).trans (show (#[Value.string nm, .slice A1 n1 c1] : Array Value)[0]? = some (.string nm) from rfl)
  have p1 := (hM1.cell 1).trans (show (#[Value.string nm, .slice A1 n1 c1] : Array Value)[1]? = some (.slice A1 n1 c1) from rfl)
  have p2 := (hB4.cell 1).trans (show (#[Value.string nm, .int .i64 v] : Array Value)[1]? = some (.int .i64 v) from rfl)
  have hg5 := hB5.lt
  clear hW1 hR1 hb1 hB2 hB3 HG k0
  generalize w1.heap.size = g6 at *
  go_wp2_with (first
    | (go_at_call 87
       refine (HR.out _ _ _ _ hR2).mono ?_
       rintro e w2 ⟨A3, n3, c3, rfl, hN3, hb3⟩
       have hB6 := hB5.below hb3 hg5
       have k2 := hB6.cell 0
       have k3 := hB6.cell 1
       have f2 := hB6.frozen 0
       have f3 := hB6.frozen 1))
  have hblk := (hB6.set_ 0 (.int .i64 (r.getD (0, [])).1)).set_ 1 (.slice A3 n3 c3)
  refine bodyPost_ret (results_row_tmp rfl _ _ g5 123 _ (0, 0) _ (.bool r.isSome) rfl rfl hblk Tryz.underlying123 rfl rel_size) rfl ?_
  have hbz := hb02.trans (hb3.mono hb02.size)
  refine ⟨A3, n3, c3, rfl, ?_, below_two hbz hge _ _⟩
  exact hN3.far (farT_blk hB6 (by decide)) (farT_blk hB6 (by decide)) (setTwo_only _ _ _ _)
def unmetN (l : List Pk) (s : List Nd) : Option Nd := s.find? fun q : Nd => !metP l q
def nameO {α : Type} (o : Option (ByteArray × α)) : ByteArray := (o.map Prod.fst).getD ByteArray.empty
theorem unmet_drop {l : List Pk} {s : List Nd} {i : Nat} {q : Nd} (h : s[i]? = some q) : unmetN l (s.drop i) = if metP l q = true then unmetN l (s.drop (i + 1)) else some q := by
  obtain ⟨hi, e⟩ := List.getElem?_eq_some_iff.1 h
  unfold unmetN
  rw [List.drop_eq_getElem_cons hi, e, List.find?_cons]
  cases g : metP l q <;> simp
theorem met_is {l : List Pk} {x : ByteArray} {s : List S} : metP l (x, s) = match getP l x with
    | some v => has s v
    | none => false := rfl
set_option maxHeartbeats 4000000 in
set_option maxRecDepth 100000 in
theorem unmet_any (s : List Nd) (l : List Pk) (A Al : Option Addr) (n c nl cl : Nat) (w : World) (h : NdOn w A n s) (hl : PkOn w Al nl l) (hr : RisesP l) (hn : n ≤ 1000000) (hnl : nl ≤ 1000000) (hset : ∀ q ∈ s, q.2.length ≤ 1000000001) :
    Calls Tryz.prog 63 #[.slice A n c, .slice Al nl cl] w fun e w' => e = .returned (.tuple #[.string (nameO (unmetN l s)), .bool (unmetN l s).isSome]) ∧ Below w.heap.size w w' := by
  have Hlen := hide h.len
  have HG := hide (fun (nm : ByteArray) (wx : World) (hx : Below w.heap.size w wx) => get_any l nm Al nl cl wx (hl.on hx) hr hnl)
  have HH := hide (fun (p : Int) (A' : Option Addr) (n' c' : Nat) (s' : List S) (wx : World) (h' : SpOn wx A' n' s') (hn' : n' ≤ 1000000001) => has_any (c := c') p wx h' (Nat.le_refl _) hn')
  have Hd := hide (fun (i : Nat) (q : Nd) => @unmet_drop l s i q)
  have Hend : Hid (unmetN l (s.drop n) = none) := hide (by rw [List.drop_of_length_le (by have := Hlen.out; omega)]; rfl)
  obtain ⟨r, hr⟩ : ∃ r, r = unmetN l s := ⟨_, rfl⟩
  rw [← hr]
  have Hr := hide hr
  clear hr hl
  go_enter Tryz.func63, Tryz.ntmps63
  go_wp2
  go_loopw [12] (fun v wr => ∃ (i : Nat), i ≤ n ∧ v = .int .i64 (i : Int) ∧ Hid (r = unmetN l (s.drop i)) ∧ Below w.heap.size w wr) (fun v _ => n - (RowKit.intOf v).toNat)
  case atStart => exact ⟨0, by omega, rfl, Hr, Below.refl _ _⟩
  case round =>
    obtain ⟨i, hi, rfl, hf, hb⟩ := hrel
    have hbs := hb.size
    by_cases hlt : i < n
    · obtain ⟨ad, q, A', n', c', rfl, hbl, hx, hs, c1, c2⟩ := NdIn.at_ (NdIn.below h hb) hlt
      have hq := hset q (List.mem_of_getElem? hx)
      have hd := hf.out.trans (Hd.out i q hx)
      obtain ⟨x, s'⟩ := q
      simp only [] at c1 c2 hs hq hd
      have hn' : n' ≤ 1000000001 := by rw [← hs.1]; exact hq
      have hs2 : SpOn wr A' n' s' := SpIn.more hs hbs
      have hm := @met_is l x s'
      have HGx := hide (fun wx hx => HG.out x wx hx)
      have hba := hb.alloc hbs (.cells #[.string x, .slice A' n' c'] 46)
      have hB := Blk.new wr 46 #[.string x, .slice A' n' c']
      have hs3 : SpOn (wr.alloc (.cells #[.string x, .slice A' n' c'] 46)) A' n' s' := SpOn.on hs2 (alloc_b _ _)
      clear hx hf hs hq h hset Hend Hr HG hs2
      cases g : getP l x with
      | none =>
        rw [g] at HGx hm
        have e : Hid (r = some (x, s')) := hide (by rw [hd, hm]; rfl)
        clear hd hm g
        go_wp2_with (first
          | (go_at_call 93
             refine (HGx.out _ hba).mono ?_
             rintro e w1 ⟨rfl, k, rfl⟩))
        go_ret2
        exact ⟨by rw [e.out]; rfl, below_drewN hba _⟩
      | some v =>
        rw [g] at HGx hm
        simp only [] at hm
        cases gh : has s' v with
        | false =>
          have e : Hid (r = some (x, s')) := hide (by rw [hd, hm, gh]; rfl)
          have HHx := hide (fun wx hx => HH.out v A' n' c' s' wx hx hn')
          rw [gh] at HHx
          clear hd hm g gh HH
          go_wp2_with (first
            | (go_at_call 93
               refine (HGx.out _ hba).mono ?_
               rintro e w1 ⟨rfl, k, rfl⟩
               have hs4 := SpOn.on hs3 (quiet_b k)
               have hb4 := below_drewN hba k
               have hB4 := hB.drewN k)
            | (go_at_call 94
               refine (HHx.out _ hs4).mono ?_
               rintro e w2 ⟨rfl, hb2⟩
               have hbw := hb4.trans (hb2.mono hb4.size)
               have hB5 := hB4.below hb2 hB4.lt
               have k5 := hB5.cell 0))
          go_ret2
          exact ⟨by rw [e.out]; rfl, hbw⟩
        | true =>
          have e : Hid (r = unmetN l (s.drop (i + 1))) := hide (by rw [hd, hm, gh]; rfl)
          have HHx := hide (fun wx hx => HH.out v A' n' c' s' wx hx hn')
          rw [gh] at HHx
          clear hd hm g gh HH
          go_wp2_with (first
            | (go_at_call 93
               refine (HGx.out _ hba).mono ?_
               rintro e w1 ⟨rfl, k, rfl⟩
               have hs4 := SpOn.on hs3 (quiet_b k)
               have hb4 := below_drewN hba k)
            | (go_at_call 94
               refine (HHx.out _ hs4).mono ?_
               rintro e w2 ⟨rfl, hb2⟩
               have hbw := hb4.trans (hb2.mono hb4.size)))
          go_roundw
          case rel => exact ⟨i + 1, by omega, by go_num, e, hbw⟩
          case measure => simp [RowKit.intOf]; omega
    · have hi2 : i = n := by omega
      have e : r = none := by rw [hf.out, hi2]; exact Hend.out
      subst e
      clear hf Hr Hend h
      go_wp2
      go_ret2
      exact ⟨rfl, hb⟩
end Go.Proofs.YtdmejcfnolhplaaGreatDoor.Fit
/-
  The contract of the program's Needed: what picks need. Condition: what is known is looked at; the picks may be.
-/
namespace Go.Proofs.YtdmejcfnolhplaaGreatDoor.Fit
open Go Go.RowKit Go.Lib Go.Sort Go.Proofs.YtdmejcfnolhplaaGreatDoor.Span Go.Proofs.YtdmejcfnolhplaaGreatDoor.Need Go.Proofs.YtdmejcfnolhplaaGreatDoor.Mani Go.Proofs.YtdmejcfnolhplaaGreatDoor.Wire Go.Proofs.YtdmejcfnolhplaaGreatDoor.Depot Go.Proofs.YtdmejcfnolhplaaGreatDoor.Index Go.Proofs.YtdmejcfnolhplaaGreatDoor.Reach Go.Proofs.YtdmejcfnolhplaaGreatDoor.Pick
set_option linter.unusedVariables false
set_option maxHeartbeats 8000000 in
set_option maxRecDepth 100000 in
theorem specNeeded : SpecNeeded := by
  intro X root l pv A n c Al nl cl w ⟨⟨hP, hX⟩, hf, hS, hXl, h, hn, hok, hr, hp, hnc, hnl, hq, hU⟩ hokP
  unfold MakesT
  obtain ⟨i0, hi0, hz0, hz1, hz2⟩ := info_parts info_str
  have hrl : root.length ≤ 40 := by rw [h.len]; exact hn
  have hll : l.length ≤ 60 := by rw [hp.len]; exact hnl
  have HL := hide (fun (L : List ByteArray) (d : Nat) (hB : BfsF X root l L d) => hB.len hS hrl hll)
  have Hms := hide (fun (z : ByteArray) (hz : MayF X root l z) => mayF_short hf hr hz)
  have Hns := hide (fun (z : ByteArray) (v : Int) => needs_sets hS z v)
  have Hnf := hide (fun (z : ByteArray) (v : Int) (q : Nd) (hq : q ∈ needsX X z v) => needs_fine hf hq)
  have HG := hide (fun (z : ByteArray) (wx : World) (hb : Below w.heap.size w wx) => get_any l z Al nl cl wx (hp.on hb) (okP_iff.1 hokP).1 (by omega))
  have HR := hide (fun (z : ByteArray) (v : Int) (wx : World) (hb : Below w.heap.size w wx) (hz : z.size ≤ 1000000000) => release_any X z v pv wx (hX.on hb) hf hz)
  unfold GetsI at HR
  have HF := hide (fun (acc : List ByteArray) (s : List Nd) (Ax : Option Addr) (nx cx : Nat) (wx : World) (hM : OwnF wx w.heap.size acc) (hT : NdOn wx Ax nx s) (hx : nx ≤ 1000000) (ha : acc.length ≤ 1000000) (hs : ∀ q ∈ s, q.1.size ≤ 1000000000) => freshF_any acc s w.heap.size Ax nx cx wx hM hT hx ha hs)
  unfold Freshes at HF
  have Hst := hide (bfsF_start X root l)
  have hmm := @run_makeMap Tryz.prog
  have m0 : OwnF (w.alloc (.map #[] 0)) w.heap.size [] := World.ownsMap_made w Tryz.prog 9 (unitElem (H := Unit))
  have hbm : Below w.heap.size w (w.alloc (.map #[] 0)) := alloc_b _ _
  have hT0 : NdOn (w.alloc (.map #[] 0)) A n root := h.on hbm
  have hr0 : ∀ q ∈ root, q.1.size ≤ 1000000000 := fun q hq => by have := hr q hq; omega
  have HF0 := hide (HF.out [] root A n c _ m0 hT0 (by omega) (by simp) hr0)
  clear h hf hn hr hrl hll hX hS hXl hok hp hnc hnl hq hU hokP hT0 hr0
  go_enter Tryz.func68, Tryz.ntmps68
  go_wp2_with (first
    | (go_at_call 95
       refine HF0.out.mono ?_
       rintro e w2 ⟨v2, rfl, hown2, hM2, hg2⟩))
  have hbw2 : Below w.heap.size w w2 := hbm.grown hg2 hbm.size (fun k hk => by injection hk with hk; omega)
  have hown2' : w2.ownsRow (w.heap.size + 1) 9 1 v2 (newF [] (namesS root)).length (tcs (newF [] (namesS root))) := by simpa using hown2
  generalize hL0 : newF [] (namesS root) = L0 at *
  have hM2' : OwnF w2 w.heap.size L0 := by simpa using hM2
  clear hmm m0 hbm hg2 hM2 hown2 HF0
  go_loopw [8, 9] (fun u v wr => ∃ (d : Nat) (L : List ByteArray), v = .int .i64 (d : Int) ∧ d ≤ L.length ∧ BfsF X root l L d ∧ wr.ownsRow (w.heap.size + 1) 9 1 u L.length (tcs L) ∧ OwnF wr w.heap.size L ∧ Below w.heap.size w wr) (fun _ v _ => 401 - (RowKit.intOf v).toNat)
  case atStart => exact ⟨0, L0, rfl, by omega, Hst.out, hown2', hM2', hbw2⟩
  case round =>
    obtain ⟨d, L, rfl, hd, hB, hown, hM, hb⟩ := hrel
    have hbs := hb.size
    have hLen := HL.out L d hB
    clear hown2' hM2' hbw2 Hst
    obtain ⟨Al, cl', rfl, hcl, hT⟩ := own_texts hown
    by_cases hlt : d < L.length
    · obtain ⟨a, ha⟩ : ∃ a, L[d]? = some a := ⟨_, List.getElem?_eq_getElem hlt⟩
      obtain ⟨ad, z, rfl, had, hz, hc⟩ := tcs_at hT hlt
      have hza : z = a := by
        rw [ha] at hz
        injection hz with hz
        exact hz.symm
      subst hza
      have hsz := Hms.out z (hB.may z (List.mem_of_getElem? ha))
      have HGz := hide (fun wx hx => HG.out z wx hx)
      cases hv : getP l z with
      | none =>
        have hst := hide (hB.pass ha hv)
        rw [hv] at HGz
        clear hz ha hT hB hv HG HR HF
        go_wp2_with (first
          | (go_at_call 93
             refine (HGz.out _ hb).mono ?_
             rintro e w3 ⟨rfl, k, rfl⟩
             have hown3 := own_below hown (quiet_b k)
             have hM3 := hM.kept (only_of_below (quiet_b k) none) (by simp)
             have hb3 := below_drewN hb k))
        go_roundw
        case rel => exact ⟨d + 1, L, by go_num, by omega, hst.out, hown3, hM3, hb3⟩
        case measure => simp [RowKit.intOf]; omega
      | some v =>
        have hst := hide (hB.go ha hv)
        rw [hv] at HGz
        have HRz := hide (fun wx hx => HR.out z v wx hx (by omega))
        have hns := (Hns.out z v).1
        have hnf : ∀ q ∈ needsX X z v, q.1.size ≤ 1000000000 := fun q hq => by have := Hnf.out z v q hq; omega
        have HFz := hide (fun (Ax : Option Addr) (nx cx : Nat) (wx : World) (hMx : OwnF wx w.heap.size L) (hTx : NdOn wx Ax nx (needsX X z v)) => HF.out L (needsX X z v) Ax nx cx wx hMx hTx (by rw [← hTx.len]; omega) (by omega) hnf)
        have eN : ((relX X z v).getD (0, [])).2 = needsX X z v := rfl
        rw [eN] at HRz
        have hnl2 := newF_len L (namesS (needsX X z v))
        have hnl3 : (namesS (needsX X z v)).length ≤ 6 := by unfold namesS; rw [List.length_map]; exact hns
        clear hz ha hT hB hv HG HR HF Hns Hnf hnf eN hns
        go_wp2_with (first
          | (go_at_call 93
             refine (HGz.out _ hb).mono ?_
             rintro e w3 ⟨rfl, k, rfl⟩
             have hb3 := below_drewN hb k
             have hbx3 : Below wr.heap.size wr (wr.drewN k) := quiet_b k
             have hc3 : (wr.drewN k).cell? (ad.add d) = some (.string z) := hc)
          | (go_at_call 66
             refine (HRz.out _ hb3).mono ?_
             rintro e w4 ⟨A4, n4, c4, rfl, hN4, hb4⟩
             have hbx4 := hbx3.trans (hb4.mono hbx3.size)
             have hbx5 := hbx4.alloc hbx4.size (.cells #[.int .i64 ((relX X z v).getD (0, [])).1, .slice A4 n4 c4] 123)
             have hB5 := Blk.new w4 123 #[.int .i64 ((relX X z v).getD (0, [])).1, .slice A4 n4 c4]
             have hT5 := hN4.on.on (alloc_b w4 (.cells #[.int .i64 ((relX X z v).getD (0, [])).1, .slice A4 n4 c4] 123))
             have hM5 := hM.kept (only_of_below hbx5 none) (by simp)
             have hown5 := own_below hown hbx5
             have hbw5 := hb.trans (hbx5.mono hbs)
             have hbw5s := hbw5.size)
          | (go_at_call 95
             refine (HFz.out _ _ _ _ hM5 hT5).mono ?_
             rintro e w6 ⟨v6, rfl, hown6, hM6, hg6⟩
             have hown6l := own_far hown5 (farT_set _ hM5) hg6
             have hbw6 : Below w.heap.size w w6 := hbw5.grown hg6 hbw5s (fun k hk => by injection hk with hk; omega)
             have hbw6s := hbw6.size
             obtain ⟨A6, c6, rfl, hc6, hT6⟩ := own_texts hown6)
          | (at_builtin
             refine wpList_append_any _ rfl _ _ _ rfl (w.heap.size + 1) 9 i0 _ 1 16 Tryz.underlying127 hi0 hz0 hz1 hz2 rfl (by omega) _ L.length (tcs L) rfl hown6l _ _ _ _ _ rfl hT6 (by intro u hu; obtain ⟨y, _, rfl⟩ := List.mem_map.1 hu; rfl) (by unfold maxLen; omega) (by omega) (by have := hM6.lt; omega) ?_
             intro v7 w7 hown7 hg7 _))
        have hM7 : OwnF w7 w.heap.size (L ++ newF L (namesS (needsX X z v))) := hM6.kept hg7 (row_ne_low hown6l (by omega))
        have hbw7 : Below w.heap.size w w7 := hbw6.grown hg7 hbw6s (fun k hk => by have := (hown6l.lt k hk).1; omega)
        go_roundw
        case rel => exact ⟨d + 1, L ++ newF L (namesS (needsX X z v)), by go_num, by rw [List.length_append]; omega, hst.out, by rw [tcs_append, List.length_append]; exact hown7, hM7, hbw7⟩
        case measure => simp [RowKit.intOf]; omega
    · have hdl : d = L.length := by omega
      subst hdl
      have hso := hide hB.sorted
      have hrow : wr.ownsRow (w.heap.size + 1) 9 1 (.slice Al L.length cl') (L.map bytesOf).length ((L.map bytesOf).map encStr) := by rw [Mani.texts_of, List.length_map]; exact hown
      have HS := hide (sort_own (w.heap.size + 1) (.slice Al L.length cl') (L.map bytesOf) wr hrow (by rw [List.length_map]; omega))
      have hlt' := hide (fun k hk => (hown.lt k hk).1)
      clear hrow hown hM hT hB hd hlt HG HR HF
      go_wp2_with (first
        | (go_at_call 96
           refine HS.out.mono ?_
           rintro e w7 ⟨rfl, hown7, hg7⟩))
      rw [hso.out, Mani.texts_of, List.length_map] at hown7
      have hbw7 : Below w.heap.size w w7 := hb.grown hg7 hbs (fun k hk => by have := hlt'.out k hk; omega)
      obtain ⟨A9, c9, e9, _, hT9⟩ := own_texts hown7
      injection e9 with e1 e2 e3
      subst e1 e3
      go_ret
      first | exact ⟨Al, _, cl', rfl, hT9, hbw7⟩ | exact ⟨Al, _, ⟨cl', rfl⟩, hT9, hbw7⟩
end Go.Proofs.YtdmejcfnolhplaaGreatDoor.Fit
