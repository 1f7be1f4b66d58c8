/-
  Some texts of this claim, one behind the other: FitRef, FitRefBroken, FitRefNeed. What each proves, and its condition, stands at its head.
-/
import Derived.Test.YtjbjdoioallpkaaGreatDoorZ39
import Derived.Test.YtjbjdoioallpkaaGreatDoorZ15
import Derived.Test.YtjbjdoioallpkaaGreatDoorZ36
import Derived.Test.YtjbjdoioallpkaaGreatDoorZ9
import Derived.Test.YtjbjdoioallpkaaGreatDoorZ26
import Derived.Test.YtjbjdoioallpkaaGreatDoorZ35
import Derived.Test.YtjbjdoioallpkaaGreatDoorZ21
import Derived.Deep.RegionHeld3
/-
  Contracts of the document's met and needs: is a need met by picks; what a pick's release needs. Condition: sets of at most 1,000,000,001 spans; what is known is looked at.
-/
namespace Go.Proofs.YtjbjdoioallpkaaGreatDoor.Fit
open Go Go.RowKit Go.Lib Go.Proofs.YtjbjdoioallpkaaGreatDoor.Span Go.Proofs.YtjbjdoioallpkaaGreatDoor.Need Go.Proofs.YtjbjdoioallpkaaGreatDoor.Mani Go.Proofs.YtjbjdoioallpkaaGreatDoor.Wire Go.Proofs.YtjbjdoioallpkaaGreatDoor.Depot Go.Proofs.YtjbjdoioallpkaaGreatDoor.Index Go.Proofs.YtjbjdoioallpkaaGreatDoor.Pick
set_option linter.unusedVariables false
theorem refHasS_any {w : World} {n c : Nat} {A : Option Addr} {l : List S} (p : Int) (h : SpOn w A n l) (hn : n ≤ 1000000001) (hs : isSet (-1) l = true) :
    Calls Tryz.prog 48 #[.slice A n c, .int .i64 p] w fun e w' => e = .returned (.bool (has l p)) ∧ w = w' := by
  have := refHas_any (c := c) p w h hn
  have e : (has l p && (decide (0 ≤ p) && decide (p < 1000000000))) = has l p := by
    cases hh : has l p with
    | false => rfl
    | true => have := has_range hs hh; simp; omega
  rwa [e] at this
set_option maxHeartbeats 2000000 in
theorem refMet_any (l : List Pk) (nm : ByteArray) (s : List S) (A A' : Option Addr) (n c n' c' : Nat) (w : World) (h : PkOn w A n l) (hs : SpOn w A' n' s) (hn : n ≤ 1000000) (hn' : n' ≤ 1000000001) (hset : isSet (-1) s = true) :
    Calls Tryz.prog 25 #[.slice A n c, .agg #[.string nm, .slice A' n' c']] w fun e w' => e = .returned (.bool (metP l (nm, s))) ∧ Below w.heap.size w w' := by
  have hb0 := alloc_b w (.cells #[.string nm, .slice A' n' c'] 49)
  have HG := hide (fun wx (hx : Below w.heap.size w wx) => refGetP_any l nm A n c wx (h.on hx) hn)
  have HH := hide (fun (p : Int) wx (hx : Below w.heap.size w wx) => refHasS_any (c := c') p (SpOn.on hs hx) hn' hset)
  have e : metP l (nm, s) = match getP l nm with
    | some v => has s v
    | none => false := rfl
  rw [e]
  clear e h hs hset
  cases g : getP l nm with
  | none =>
    rw [g] at HG
    go_enter Tryz.func25, Tryz.ntmps25
    go_wp2_with (first
      | (go_at_call 33
         refine (HG.out _ hb0).mono ?_
         rintro e w1 ⟨rfl, rfl⟩))
    go_ret
    exact ⟨rfl, hb0⟩
  | some v =>
    rw [g] at HG
    go_enter Tryz.func25, Tryz.ntmps25
    go_wp2_with (first
      | (go_at_call 33
         refine (HG.out _ hb0).mono ?_
         rintro e w1 ⟨rfl, rfl⟩)
      | (go_at_call 48
         refine (HH.out _ _ hb0).mono ?_
         rintro e w1 ⟨rfl, rfl⟩))
    go_ret
    exact ⟨rfl, hb0⟩
/-- What a call makes: a slice that reads as needs. -/
def MakesN (w : World) (L : List Nd) (e : Ending) (w' : World) : Prop := ∃ A n c, e = .returned (.slice A n c) ∧ NdOn w' A n L ∧ Below w.heap.size w w'
set_option maxHeartbeats 4000000 in
set_option maxRecDepth 100000 in
theorem refNeeds_any (X : List Kn) (nm : ByteArray) (v : Int) (A : Option Addr) (n c : Nat) (w : World) (h : InK w A n X) (hn : n ≤ 1000000) (hf : FineX X) :
    Calls Tryz.prog 34 #[.agg #[.slice A n c], .agg #[.string nm, .int .i64 v]] w (MakesN w (needsX X nm v)) := by
  unfold MakesN
  have HG := hide (fun (wx : World) (hx : Below w.heap.size w wx) => refGetX_any X nm A n c wx (h.below hx) hn)
  unfold Gots at HG
  have HR := hide (fun (Ax : Option Addr) (nx cx : Nat) (wx : World) (hx : RlOn wx Ax nx (getX X nm).1) => refGetM_any v nm (getX X nm).1 Ax nx cx wx hx (hf.get nm))
  unfold Gets at HR
  have eN : needsX X nm v = ((getR (getX X nm).1 v).getD (0, [])).2 := rfl
  rw [eN]
  clear eN hf h
  generalize (getX X nm).2 = g2 at *
  generalize (getX X nm).1 = rl at *
  generalize (getR rl v) = r at *
  obtain ⟨W0, hW0⟩ : ∃ W0, W0 = (w.alloc (.cells #[.slice A n c] 33)).alloc (.cells #[.string nm, .int .i64 v] 53) := ⟨_, rfl⟩
  have hb0 : Below w.heap.size w W0 := by rw [hW0]; exact (alloc_b w _).alloc (by simp) _
  have hB1 : Blk W0 (w.heap.size + 1) 53 #[.string nm, .int .i64 v] := by
    rw [hW0]
    have := Blk.new (w.alloc (.cells #[.slice A n c] 33)) 53 #[.string nm, .int .i64 v]
    rwa [World.size_alloc] at this
  have k0 : W0.cell? ⟨w.heap.size, 0, none⟩ = some (.slice A n c) := by
    rw [hW0]
    exact (((Blk.new w 33 #[.slice A n c]).alloc _).cell 0).trans rfl
  have k1 : W0.cell? ⟨w.heap.size + 1, 0, none⟩ = some (.string nm) := (hB1.cell 0).trans rfl
  have hg1 := hB1.lt
  go_enter Tryz.func34, Tryz.ntmps34
  go_upto_region 1 with fail
  rw [← hW0]
  clear hW0
  generalize w.heap.size + 1 = g5 at *
  go_upto_region 2 with (first
    | (go_at_call 49
       refine (HG.out _ hb0).mono ?_
       rintro e w1 ⟨A1, n1, c1, B1, rs1, rfl, hR1, hb1⟩))
  have hb01 := hb0.trans (hb1.mono hb0.size)
  have hB2 := hB1.below hb1 hg1
  obtain ⟨W1, hW1⟩ : ∃ W1, W1 = w1.alloc (.cells #[.string nm, .slice A1 n1 c1] 95) := ⟨_, rfl⟩
  have hM1 : Blk W1 w1.heap.size 95 #[.string nm, .slice A1 n1 c1] := by rw [hW1]; exact Blk.new _ _ _
  have hB3 : Blk W1 g5 53 #[.string nm, .int .i64 v] := by rw [hW1]; exact hB2.alloc _
  have hR2 : RlOn W1 A1 n1 rl := by rw [hW1]; exact (hR1.below (alloc_b _ _)).on
  have hb02 : Below w.heap.size w W1 := by rw [hW1]; exact hb01.alloc hb01.size _
  rw [← hW1]
  have p0 := (hM1.cell 0).trans (show (#[Value.string nm, .slice A1 n1 c1] : Array Value)[0]? = some (.string nm) from rfl)
  have p1 := (hM1.cell 1).trans (show (#[Value.string nm, .slice A1 n1 c1] : Array Value)[1]? = some (.slice A1 n1 c1) from rfl)
  have p2 := (hB3.cell 1).trans (show (#[Value.string nm, .int .i64 v] : Array Value)[1]? = some (.int .i64 v) from rfl)
  clear hW1 hR1 hb1 hB2 HG k0 k1
  generalize w1.heap.size = g6 at *
  go_wp2_with (first
    | (go_at_call 50
       refine (HR.out _ _ _ _ hR2).mono ?_
       rintro e w2 ⟨A3, n3, c3, rfl, hN3, hb3⟩))
  go_ret
  exact ⟨A3, n3, c3, rfl, hN3.on (alloc_b _ _), (hb02.trans (hb3.mono hb02.size)).alloc (hb02.trans (hb3.mono hb02.size)).size _⟩
end Go.Proofs.YtjbjdoioallpkaaGreatDoor.Fit
/-
  The contract of the document's broken: is a rule not so of a pick. Condition: what is known is looked at; the names needed rise.
-/
namespace Go.Proofs.YtjbjdoioallpkaaGreatDoor.Fit
open Go Go.RowKit Go.Lib Go.Sort Go.Proofs.YtjbjdoioallpkaaGreatDoor.Span Go.Proofs.YtjbjdoioallpkaaGreatDoor.Need Go.Proofs.YtjbjdoioallpkaaGreatDoor.Mani Go.Proofs.YtjbjdoioallpkaaGreatDoor.Wire Go.Proofs.YtjbjdoioallpkaaGreatDoor.Depot Go.Proofs.YtjbjdoioallpkaaGreatDoor.Index Go.Proofs.YtjbjdoioallpkaaGreatDoor.Reach Go.Proofs.YtjbjdoioallpkaaGreatDoor.Pick
set_option linter.unusedVariables false
/-- Is a rule not so of a pick? -/
def brokenX (X : List Kn) (l : List Pk) (N : List ByteArray) (r : Int) (p : Pk) : Bool := if r = 3 then lacksX X p else if r = 4 then unmetX X l p else !memB p.1 N
theorem any_next {f : Nd → Bool} {L : List Nd} {i : Nat} {q : Nd} (h : L[i]? = some q) : (L.drop i).any f = (f q || (L.drop (i + 1)).any f) := by
  obtain ⟨hi, e⟩ := List.getElem?_eq_some_iff.1 h
  rw [List.drop_eq_getElem_cons hi, e]
  rfl
theorem add_len {x : ByteArray} {N : List ByteArray} (h : RisesN N) : (addF x false N).length = if memB x N = true then N.length else N.length + 1 := by
  rw [addF_there h]
  cases e : memB x N with
  | true => rw [if_pos (memB_iff.1 e), if_pos rfl]
  | false => rw [if_neg (memB_not.1 e), if_neg (by simp)]
theorem cmp_len {n1 nn : Nat} {m : Bool} (h : n1 = if m = true then nn else nn + 1) : ((n1 : Int) == (nn : Int)) = m := by
  cases m with
  | true => rw [if_pos rfl] at h; rw [h]; simp
  | false => rw [if_neg (by simp)] at h; exact beq_eq_false_iff_ne.2 (by omega)
section
variable (X : List Kn) (l : List Pk) (N : List ByteArray) (nm : ByteArray) (v : Int) (Ay : Option Addr) (ny cy : Nat) (Al : Option Addr) (nl cl : Nat) (An : Option Addr) (nn cn : Nat) (w : World)
set_option maxHeartbeats 4000000 in
set_option maxRecDepth 100000 in
theorem broken3_any (h : InK w Ay ny X) (hn : ny ≤ 1000000) (hf : FineX X) :
    Calls Tryz.prog 26 #[.agg #[.slice Ay ny cy], .slice Al nl cl, .agg #[.string nm, .int .i64 v], .int .i64 3, .slice An nn cn] w fun e w' => e = .returned (.bool (lacksX X (nm, v))) ∧ Below w.heap.size w w' := by
  have HG := hide (fun (wx : World) (hx : Below w.heap.size w wx) => refGetX_any X nm Ay ny cy wx (h.below hx) hn)
  unfold Gots at HG
  have HR := hide (fun (Ax : Option Addr) (nx cx : Nat) (wx : World) (hx : RlOn wx Ax nx (getX X nm).1) => refGetM_any v nm (getX X nm).1 Ax nx cx wx hx (hf.get nm))
  unfold Gets at HR
  have eN : lacksX X (nm, v) = !(getR (getX X nm).1 v).isSome := rfl
  rw [eN]
  clear eN hf h
  generalize (getX X nm).2 = g2 at *
  generalize (getX X nm).1 = rl at *
  generalize (getR rl v) = r at *
  obtain ⟨W0, hW0⟩ : ∃ W0, W0 = (w.alloc (.cells #[.slice Ay ny cy] 33)).alloc (.cells #[.string nm, .int .i64 v] 53) := ⟨_, rfl⟩
  have hb0 : Below w.heap.size w W0 := by rw [hW0]; exact (alloc_b w _).alloc (by simp) _
  have hB1 : Blk W0 (w.heap.size + 1) 53 #[.string nm, .int .i64 v] := by
    rw [hW0]
    have := Blk.new (w.alloc (.cells #[.slice Ay ny cy] 33)) 53 #[.string nm, .int .i64 v]
    rwa [World.size_alloc] at this
  have k0 : W0.cell? ⟨w.heap.size, 0, none⟩ = some (.slice Ay ny cy) := by
    rw [hW0]
    exact (((Blk.new w 33 #[.slice Ay ny cy]).alloc _).cell 0).trans rfl
  have k1 : W0.cell? ⟨w.heap.size + 1, 0, none⟩ = some (.string nm) := (hB1.cell 0).trans rfl
  have hg1 := hB1.lt
  go_enter Tryz.func26, Tryz.ntmps26
  go_upto_region 1 with fail
  rw [← hW0]
  clear hW0
  generalize w.heap.size + 1 = g5 at *
  go_upto_region 3 with (first
    | (go_at_call 49
       refine (HG.out _ hb0).mono ?_
       rintro e w1 ⟨A1, n1, c1, B1, rs1, rfl, hR1, hb1⟩))
  have hb01 := hb0.trans (hb1.mono hb0.size)
  have hB2 := hB1.below hb1 hg1
  obtain ⟨W1, hW1⟩ : ∃ W1, W1 = w1.alloc (.cells #[.string nm, .slice A1 n1 c1] 95) := ⟨_, rfl⟩
  have hM1 : Blk W1 w1.heap.size 95 #[.string nm, .slice A1 n1 c1] := by rw [hW1]; exact Blk.new _ _ _
  have hB3 : Blk W1 g5 53 #[.string nm, .int .i64 v] := by rw [hW1]; exact hB2.alloc _
  have hR2 : RlOn W1 A1 n1 rl := by rw [hW1]; exact (hR1.below (alloc_b _ _)).on
  have hb02 : Below w.heap.size w W1 := by rw [hW1]; exact hb01.alloc hb01.size _
  rw [← hW1]
  have p0 := (hM1.cell 0).trans (show (#[Value.string nm, .slice A1 n1 c1] : Array Value)[0]? = some (.string nm) from rfl)
  have p1 := (hM1.cell 1).trans (show (#[Value.string nm, .slice A1 n1 c1] : Array Value)[1]? = some (.slice A1 n1 c1) from rfl)
  have p2 := (hB3.cell 1).trans (show (#[Value.string nm, .int .i64 v] : Array Value)[1]? = some (.int .i64 v) from rfl)
  clear hW1 hR1 hb1 hB2 HG k0 k1
  generalize w1.heap.size = g6 at *
  go_wp2_with (first
    | (go_at_call 50
       refine (HR.out _ _ _ _ hR2).mono ?_
       rintro e w2 ⟨A3, n3, c3, rfl, hN3, hb3⟩))
  go_ret
  exact ⟨by cases r <;> rfl, (hb02.trans (hb3.mono hb02.size)).alloc (hb02.trans (hb3.mono hb02.size)).size _⟩
set_option maxHeartbeats 4000000 in
set_option maxRecDepth 100000 in
theorem broken4_any (h : InK w Ay ny X) (hn : ny ≤ 1000000) (hf : FineX X) (hs : SetX X) (hp : PkOn w Al nl l) (hnl : nl ≤ 1000) :
    Calls Tryz.prog 26 #[.agg #[.slice Ay ny cy], .slice Al nl cl, .agg #[.string nm, .int .i64 v], .int .i64 4, .slice An nn cn] w fun e w' => e = .returned (.bool (unmetX X l (nm, v))) ∧ Below w.heap.size w w' := by
  have HN := hide (fun (wx : World) (hx : Below w.heap.size w wx) => refNeeds_any X nm v Ay ny cy wx (h.below hx) hn hf)
  unfold MakesN at HN
  obtain ⟨hL6, hLs⟩ := needs_sets hs nm v
  have HM := hide (fun (q : Nd) (hq : q ∈ needsX X nm v) (A' : Option Addr) (n' c' : Nat) (wx : World) (hx : Below w.heap.size w wx) (hsq : SpOn wx A' n' q.2) => refMet_any l q.1 q.2 Al A' nl cl n' c' wx (hp.on hx) hsq (by omega) (by have := hsq.len; have := (hLs q hq).2; omega) (hLs q hq).1)
  have eN : unmetX X l (nm, v) = (needsX X nm v).any fun q => !metP l q := rfl
  rw [eN]
  have Hd := hide (fun i q (hq : (needsX X nm v)[i]? = some q) => any_next (f := fun q => !metP l q) hq)
  clear eN hf h hs hp hLs
  generalize needsX X nm v = L at *
  obtain ⟨F, hF⟩ : ∃ F, F = L.any fun q => !metP l q := ⟨_, rfl⟩
  rw [← hF]
  have HF := hide hF
  clear hF
  obtain ⟨W0, hW0⟩ : ∃ W0, W0 = (w.alloc (.cells #[.slice Ay ny cy] 33)).alloc (.cells #[.string nm, .int .i64 v] 53) := ⟨_, rfl⟩
  have hb0 : Below w.heap.size w W0 := by rw [hW0]; exact (alloc_b w _).alloc (by simp) _
  have hB1 : Blk W0 (w.heap.size + 1) 53 #[.string nm, .int .i64 v] := by
    rw [hW0]
    have := Blk.new (w.alloc (.cells #[.slice Ay ny cy] 33)) 53 #[.string nm, .int .i64 v]
    rwa [World.size_alloc] at this
  have k0 : W0.cell? ⟨w.heap.size, 0, none⟩ = some (.slice Ay ny cy) := by
    rw [hW0]
    exact (((Blk.new w 33 #[.slice Ay ny cy]).alloc _).cell 0).trans rfl
  have k1 : W0.cell? ⟨w.heap.size + 1, 0, none⟩ = some (.string nm) := (hB1.cell 0).trans rfl
  have k2 : W0.cell? ⟨w.heap.size + 1, 1, none⟩ = some (.int .i64 v) := (hB1.cell 1).trans rfl
  go_enter Tryz.func26, Tryz.ntmps26
  go_upto_region 1 with fail
  rw [← hW0]
  clear hW0 hB1
  generalize w.heap.size + 1 = g5 at *
  go_upto_region 7 with (first
    | (go_at_call 34
       refine (HN.out _ hb0).mono ?_
       rintro e w1 ⟨A1, n1, c1, rfl, hN1, hb1⟩))
  have hb01 := hb0.trans (hb1.mono hb0.size)
  have Hn1 := hide hN1.len
  have hn16 : n1 ≤ 6 := by have := Hn1.out; omega
  clear HN k0 k1 k2 hb1 hb0
  obtain ⟨W1, hW1⟩ : ∃ W1, W1 = w1 := ⟨w1, rfl⟩
  subst hW1
  go_wp2
  go_loopw [16] (fun u wr => ∃ i : Nat, i ≤ n1 ∧ u = .int .i64 (i : Int) ∧ Hid (F = (L.drop i).any fun q => !metP l q) ∧ Below W1.heap.size W1 wr) (fun u _ => n1 - (RowKit.intOf u).toNat)
  case atStart => exact ⟨0, by omega, rfl, HF, Below.refl _ _⟩
  case round =>
    obtain ⟨i, hi, rfl, hf, hbq⟩ := hrel
    have hbw := hb01.trans (hbq.mono hb01.size)
    by_cases hlt : i < n1
    · obtain ⟨ad, q, A', n', c', rfl, hbl, hx, hsq, c1, c2⟩ := NdIn.at_ (NdIn.below hN1 hbq) hlt
      have hd := hf.out.trans (Hd.out i q hx)
      have HQ := hide (HM.out q (List.mem_of_getElem? hx) A' n' c' wr hbw (SpIn.more hsq hbq.size))
      obtain ⟨x, s⟩ := q
      simp only [] at c1 c2 HQ hd
      clear hx hsq hf
      generalize metP l (x, s) = b at *
      cases b with
      | false =>
        have e : Hid (F = true) := hide (by rw [hd]; rfl)
        clear hd
        go_wp2_with (go_at_call 25
                     refine HQ.out.mono ?_
                     rintro e w2 ⟨rfl, hb2⟩)
        go_ret
        exact ⟨by rw [e.out]; rfl, hbw.trans (hb2.mono hbw.size)⟩
      | true =>
        have e : Hid (F = (L.drop (i + 1)).any fun q => !metP l q) := hide (by rw [hd]; rfl)
        clear hd
        go_wp2_with (go_at_call 25
                     refine HQ.out.mono ?_
                     rintro e w2 ⟨rfl, hb2⟩
                     have hbq2 := hbq.trans (hb2.mono hbq.size))
        go_roundw
        case rel => exact ⟨i + 1, by omega, by go_num, e, hbq2⟩
        case measure => simp [RowKit.intOf]; omega
    · have e : Hid (F = false) := hide (by rw [hf.out, List.drop_of_length_le (by have := Hn1.out; omega)]; rfl)
      clear hf
      go_wp2
      go_ret
      exact ⟨by rw [e.out]; rfl, hbw⟩
set_option maxHeartbeats 4000000 in
set_option maxRecDepth 100000 in
theorem broken5_any (hT : TxOn w An nn N) (hr : RisesN N) (hnn : nn ≤ 1000) :
    Calls Tryz.prog 26 #[.agg #[.slice Ay ny cy], .slice Al nl cl, .agg #[.string nm, .int .i64 v], .int .i64 5, .slice An nn cn] w fun e w' => e = .returned (.bool (!memB nm N)) ∧ Below w.heap.size w w' := by
  have HA := hide (fun (wx : World) (hx : Below w.heap.size w wx) => add_any N nm An nn cn wx (hT.on hx) (by omega))
  unfold MakesT at HA
  have hl := add_len (x := nm) hr
  rw [hT.len] at hl
  clear hr
  generalize addF nm false N = M at *
  obtain ⟨W0, hW0⟩ : ∃ W0, W0 = (w.alloc (.cells #[.slice Ay ny cy] 33)).alloc (.cells #[.string nm, .int .i64 v] 53) := ⟨_, rfl⟩
  have hb0 : Below w.heap.size w W0 := by rw [hW0]; exact (alloc_b w _).alloc (by simp) _
  have hB1 : Blk W0 (w.heap.size + 1) 53 #[.string nm, .int .i64 v] := by
    rw [hW0]
    have := Blk.new (w.alloc (.cells #[.slice Ay ny cy] 33)) 53 #[.string nm, .int .i64 v]
    rwa [World.size_alloc] at this
  have k1 : W0.cell? ⟨w.heap.size + 1, 0, none⟩ = some (.string nm) := (hB1.cell 0).trans rfl
  have Hl := hide hl
  clear hl hT
  go_enter Tryz.func26, Tryz.ntmps26
  go_upto_region 1 with fail
  rw [← hW0]
  clear hW0 hB1
  generalize w.heap.size + 1 = g5 at *
  go_wp2_with (first
    | (go_at_call 32
       refine (HA.out _ hb0).mono ?_
       rintro e w1 ⟨A1, n1, c1, rfl, h1, hb1⟩
       have hcmp := cmp_len (h1.len.symm.trans Hl.out)))
  go_ret
  exact ⟨by show Ending.returned (Value.bool (!((n1 : Int) == (nn : Int)))) = _; rw [hcmp], hb0.trans (hb1.mono hb0.size)⟩
end
end Go.Proofs.YtjbjdoioallpkaaGreatDoor.Fit
/-
  The contract of the document's Needed: what is needed by picks, in as many rounds as there are picks, and one more. Condition: at most 40 needs, 60 picks; what is known is looked at.
-/
namespace Go.Proofs.YtjbjdoioallpkaaGreatDoor.Fit
open Go Go.RowKit Go.Lib Go.Sort Go.Proofs.YtjbjdoioallpkaaGreatDoor.Span Go.Proofs.YtjbjdoioallpkaaGreatDoor.Need Go.Proofs.YtjbjdoioallpkaaGreatDoor.Mani Go.Proofs.YtjbjdoioallpkaaGreatDoor.Wire Go.Proofs.YtjbjdoioallpkaaGreatDoor.Depot Go.Proofs.YtjbjdoioallpkaaGreatDoor.Index Go.Proofs.YtjbjdoioallpkaaGreatDoor.Reach Go.Proofs.YtjbjdoioallpkaaGreatDoor.Pick
set_option linter.unusedVariables false
set_option maxHeartbeats 8000000 in
set_option maxRecDepth 100000 in
theorem refNeeded_any (X : List Kn) (root : List Nd) (l : List Pk) (Ay : Option Addr) (ny cy : Nat) (A : Option Addr) (n c : Nat) (Al : Option Addr) (nl cl : Nat) (w : World) (hK : InK w Ay ny X) (hf : FineX X) (hs : SetX X) (hXl : ny ≤ 1000000) (h : NdOn w A n root) (hn : n ≤ 40) (hp : PkOn w Al nl l) (hnl : nl ≤ 60) :
    Calls Tryz.prog 17 #[.agg #[.slice Ay ny cy], .slice A n c, .slice Al nl cl] w (MakesT w (neededX X root l)) := by
  unfold MakesT
  have hrl : root.length ≤ 40 := by rw [h.len]; exact hn
  have hll : l.length ≤ 60 := by rw [hp.len]; exact hnl
  have Hlen := hide h.len
  have Hpl := hide hp.len
  have Hmay := hide (fun o (ho : RisesN o) (hm : ∀ z, z ∈ o → MayF X root l z) => len_may hs hrl hll ho hm)
  have HG := hide (fun (wx : World) (hx : Below w.heap.size w wx) (a : ByteArray) => refGetP_any l a Al nl cl wx (hp.on hx) (by omega))
  have HN := hide (fun (wx : World) (hx : Below w.heap.size w wx) (a : ByteArray) (v : Int) => refNeeds_any X a v Ay ny cy wx (hK.below hx) hXl hf)
  unfold MakesN at HN
  have Hrd := hide (fun k => round_may (X := X) (root := root) (l := l) k)
  have Hend := hide (fun k o => rounds_end X l k o)
  have Hres : Hid (neededX X root l = roundsF X l (nl + 1) (addsN [] (namesS root))) := hide (by unfold neededX; rw [hp.len])
  have Hsx := hide (fun a v => (needs_sets hs a v).1)
  have b0 := Blk.new w 33 #[.slice Ay ny cy]
  clear hK hf hs hrl hll hp hXl
  go_enter Tryz.func17, Tryz.ntmps17
  go_wp2
  go_loopw [7, 8] (fun u v wr => ∃ (i m : Nat) (Ax : Option Addr) (cx : Nat), i ≤ n ∧ u = .slice Ax m cx ∧ v = .int .i64 (i : Int) ∧ TxOn wr Ax m (addsN [] (namesS (root.take i))) ∧ Blk wr w.heap.size 33 #[.slice Ay ny cy] ∧ Below w.heap.size w wr) (fun _ v _ => n - (RowKit.intOf v).toNat)
  case atStart => exact ⟨0, 0, none, 0, by omega, rfl, rfl, ⟨rfl, fun h => absurd h (by omega)⟩, b0, (Below.refl _ _).alloc (Nat.le_refl _) _⟩
  case round =>
    obtain ⟨i, m, Ax, cx, hi, rfl, rfl, hT, hbl, hb⟩ := hrel
    have hbs := hb.size
    clear b0
    by_cases hlt : i < n
    · obtain ⟨ad, q, A', n', c', rfl, hbq, hx, hs, c1, c2⟩ := NdIn.at_ (NdIn.below h hb) hlt
      have hst2 : addsN [] (namesS (root.take (i + 1))) = addF q.1 false (addsN [] (namesS (root.take i))) := by rw [names_take hx, addsN_snoc]
      obtain ⟨x, s⟩ := q
      simp only [] at c1 c2 hs hst2
      have hm10 : m ≤ 1000000 := by
        have h1 := hT.len
        have h2 := addsN_len [] (namesS (root.take i))
        have h4 : (namesS (root.take i)).length ≤ i := by unfold namesS; rw [List.length_map, List.length_take]; omega
        have h5 : ([] : List ByteArray).length = 0 := rfl
        omega
      have HA := hide (add_any _ x Ax m cx wr hT hm10)
      unfold MakesT at HA
      rw [← hst2] at HA
      clear hst2 hx hT h hs
      go_wp2_with (go_at_call 32
                   refine HA.out.mono ?_
                   rintro e w1 ⟨A1, n1, c1', rfl, h1, hb1⟩
                   have hbx := hb.trans (hb1.mono hbs)
                   have hbl1 := hbl.below hb1 hbl.lt)
      go_roundw
      case rel => exact ⟨i + 1, n1, A1, c1', by omega, rfl, by go_num, h1, hbl1, hbx⟩
      case measure => simp [RowKit.intOf]; omega
    · have hi2 : i = n := by omega
      rw [List.take_of_length_le (by rw [Hlen.out]; omega)] at hT
      have hni : ¬ i < n := hlt
      clear h hi Hlen hi2
      go_wp2
      clear hni hlt hn
      go_loopw [7, 9] (fun u x wq => ∃ (k no : Nat) (Ao : Option Addr) (co : Nat), k ≤ nl + 1 ∧ u = .slice Ao no co ∧ x = .int .i64 (k : Int) ∧ TxOn wq Ao no (roundsF X l k (addsN [] (namesS root))) ∧ Blk wq w.heap.size 33 #[.slice Ay ny cy] ∧ Below w.heap.size w wq) (fun _ x _ => nl + 1 - (RowKit.intOf x).toNat)
      case atStart => exact ⟨0, m, Ax, cx, by omega, rfl, rfl, hT, hbl, hb⟩
      case round =>
        obtain ⟨k, no, Ao, co, hk, rfl, rfl, hTo, hbo, hbb⟩ := hrel
        have hbbs := hbb.size
        clear hT hbl hb hbs
        by_cases hkl : k ≤ nl
        · obtain ⟨r1, r2⟩ := Hrd.out k
          have hE := hide (Hend.out k (addsN [] (namesS root)))
          generalize roundsF X l k (addsN [] (namesS root)) = out at *
          have hno4 : no ≤ 400 := by rw [← hTo.len]; exact Hmay.out out r1 r2
          have Hno := hide hTo.len
          have R1 := hide r1
          have R2 := hide r2
          clear r1 r2
          obtain ⟨W1, hW1⟩ : ∃ W1, W1 = wr := ⟨wr, rfl⟩
          subst hW1
          go_wp2
          go_loopw [7, 11] (fun u v wp => ∃ (i m : Nat) (Ax : Option Addr) (cx : Nat), i ≤ no ∧ u = .slice Ax m cx ∧ v = .int .i64 (i : Int) ∧ TxOn wp Ax m (midF X l out i) ∧ Below W1.heap.size W1 wp) (fun _ v _ => no - (RowKit.intOf v).toNat)
          case atStart => exact ⟨0, no, Ao, co, by omega, rfl, rfl, hTo, Below.refl _ _⟩
          case round =>
            obtain ⟨i, m, Ax, cx, hi, rfl, rfl, hT, hbp⟩ := hrel
            have hbps := hbp.size
            have hbw := hbb.trans (hbp.mono hbbs)
            have hbws := hbw.size
            by_cases hlt : i < no
            · obtain ⟨ad, a, rfl, had, ha, hc⟩ := tcs_at (hTo.on hbp) hlt
              have hbX := hbo.below hbp hbo.lt
              have kX := (hbX.cell 0).trans (show (#[Value.slice Ay ny cy] : Array Value)[0]? = some (.slice Ay ny cy) from rfl)
              have Hnx := hide (mid_next (X := X) (l := l) ha)
              have ham := List.mem_of_getElem? ha
              have Hmk := hide (fun acc hacc => mid_ok R1.out R2.out (i := i) ham acc hacc)
              have hi1 : (0 : Int) ≤ (i : Int) := by omega
              have hi2 : (i : Int) < (no : Int) := by omega
              cases g : getP l a with
              | none =>
                have e : Hid (midF X l out (i + 1) = midF X l out i) := hide (by rw [Hnx.out, asks_none g]; rfl)
                have HG2 := hide (HG.out wr hbw a)
                rw [g] at HG2
                clear Hnx Hmk ha ham g
                go_wp2_with (go_at_call 33
                             refine HG2.out.mono ?_
                             rintro e wr ⟨rfl, rfl⟩)
                go_roundw
                case rel => exact ⟨i + 1, m, Ax, cx, by omega, rfl, by go_num, by rw [e.out]; exact hT, hbp⟩
                case measure => simp [RowKit.intOf]; omega
              | some v =>
                have HG2 := hide (HG.out wr hbw a)
                have HN2 := hide (fun wx (hx : Below w.heap.size w wx) => HN.out wx hx a v)
                have hsx := Hsx.out a v
                have Has := hide (asks_some (X := X) g)
                rw [g] at HG2
                clear ha g
                go_upto_region 15 with (first
                  | (go_at_call 33
                     refine HG2.out.mono ?_
                     rintro e wr ⟨rfl, rfl⟩))
                clear HG2
                go_region_held3 (fun w' => w'.cell? ⟨w.heap.size, 0, none⟩ = some (.slice Ay ny cy) ∧ w'.cell? (ad.add i) = some (.string a)) (first | exact ⟨kX4, hc4⟩ | exact ⟨kX, hc⟩ | go_keep)
                  (first
                    | (go_at_call 34
                       refine (HN2.out _ ?_).mono ?_
                       · exact hbw.drew
                       rintro e w4 ⟨A4, n4, c4, rfl, hN4, hb4⟩
                       have hb4' : Below wr.heap.size wr w4 := ((Below.refl _ _).drew).trans hb4
                       have kX4 := (hb4'.cell (p := ⟨w.heap.size, 0, none⟩) hbX.lt).trans kX
                       have hc4 := (hb4'.cell (p := ad.add i) (by rw [block_of_add]; exact had)).trans hc))
                have hbp4 : Below W1.heap.size W1 w4 := hbp.trans (hb4'.mono hbps)
                have hT4 := hT.on hb4'
                have Hnl := hide hN4.len
                have hn6 : n4 ≤ 6 := by have := Hnl.out; omega
                clear hT hbX kX hc kX4 hc4 hb4 hb4' had HN2 hbp hbw
                obtain ⟨W4, hW4⟩ : ∃ W4, W4 = w4 := ⟨w4, rfl⟩
                subst hW4
                go_wp2
                go_loopw [7, 15] (fun u x wq => ∃ (j m : Nat) (Ax : Option Addr) (cx : Nat), j ≤ n4 ∧ u = .slice Ax m cx ∧ x = .int .i64 (j : Int) ∧ TxOn wq Ax m (addsN (midF X l out i) (namesS ((needsX X a v).take j))) ∧ Below W4.heap.size W4 wq) (fun _ x _ => n4 - (RowKit.intOf x).toNat)
                case atStart => exact ⟨0, m, Ax, cx, by omega, rfl, rfl, hT4, Below.refl _ _⟩
                case round =>
                  obtain ⟨j, m2, A2, c2, hj, rfl, rfl, hT2, hbq⟩ := hrel
                  have hbqs := hbq.size
                  clear hT4
                  by_cases hlt2 : j < n4
                  · obtain ⟨ad', q, A', n', c', rfl, hbl', hx, hs, d1, d2⟩ := NdIn.at_ (NdIn.below hN4 hbq) hlt2
                    have hst2 : addsN (midF X l out i) (namesS ((needsX X a v).take (j + 1))) = addF q.1 false (addsN (midF X l out i) (namesS ((needsX X a v).take j))) := by rw [names_take hx, addsN_snoc]
                    have hmk := Hmk.out (namesS ((needsX X a v).take j)) (fun z hz => by rw [Has.out]; exact names_take_mem hz)
                    have hm4 : m2 ≤ 400 := by rw [← hT2.len]; exact Hmay.out _ hmk.1 hmk.2
                    obtain ⟨x, s⟩ := q
                    simp only [] at d1 d2 hs hst2
                    have HA := hide (add_any _ x A2 m2 c2 wr hT2 (by omega))
                    unfold MakesT at HA
                    rw [← hst2] at HA
                    clear hst2 hx hs hmk hT2 Hmk
                    go_wp2_with (go_at_call 32
                                 refine HA.out.mono ?_
                                 rintro e w5 ⟨A5, n5, c5, rfl, h5, hb5⟩
                                 have hbx5 := hbq.trans (hb5.mono hbqs))
                    go_roundw
                    case rel => exact ⟨j + 1, n5, A5, c5, by omega, rfl, by go_num, h5, hbx5⟩
                    case measure => simp [RowKit.intOf]; omega
                  · have e : Hid (addsN (midF X l out i) (namesS ((needsX X a v).take j)) = midF X l out (i + 1)) := hide (by
                      rw [Hnx.out, Has.out, List.take_of_length_le (by have := Hnl.out; omega)])
                    rw [e.out] at hT2
                    have hbf := hbp4.trans (hbq.mono hbp4.size)
                    clear e hN4 Hnx Has Hmk hbp4 hbq
                    go_wp2
                    go_roundw
                    case rel => exact ⟨i + 1, m2, A2, c2, by omega, rfl, by go_num, hT2, hbf⟩
                    case measure => simp [RowKit.intOf]; omega
            · have hin : i = no := by omega
              have e : Hid (midF X l out i = roundsF X l (k + 1) (addsN [] (namesS root))) := hide (by rw [hE.out, ← mid_all, Hno.out, hin])
              rw [e.out] at hT
              have hbl9 := hbo.below hbp hbo.lt
              have hnlt : ¬ i < no := hlt
              clear e hin hE hTo R1 R2
              go_wp2
              go_roundw
              case rel => exact ⟨k + 1, m, Ax, cx, by omega, rfl, by go_num, hT, hbl9, hbw⟩
              case measure => simp [RowKit.intOf]; omega
        · have hk2 : k = nl + 1 := by omega
          have hk3 : ¬ (k : Int) ≤ (nl : Int) := by omega
          have e : Hid (roundsF X l k (addsN [] (namesS root)) = neededX X root l) := hide (by rw [Hres.out, hk2])
          rw [e.out] at hTo
          clear e hk2
          go_wp2
          go_ret
          exact ⟨Ao, no, ⟨co, rfl⟩, hTo, hbb⟩
end Go.Proofs.YtjbjdoioallpkaaGreatDoor.Fit
