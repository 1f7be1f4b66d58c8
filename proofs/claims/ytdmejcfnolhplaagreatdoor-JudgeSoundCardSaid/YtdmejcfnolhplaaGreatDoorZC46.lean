/-
  Some texts of this claim, one behind the other: FitSearch, FitFirst, FitWrong, FitSol. What each proves, and its condition, stands at its head.
-/
import Derived.Test.YtdmejcfnolhplaaGreatDoorZC32
import Derived.Test.YtdmejcfnolhplaaGreatDoorZC16
import Derived.Test.YtdmejcfnolhplaaGreatDoorChecked
import Derived.Shelf.Spec.SearchS
import Derived.Test.YtdmejcfnolhplaaGreatDoorZC45
import Derived.Shelf.Abstract
import Derived.Test.YtdmejcfnolhplaaGreatDoorZC5
import Derived.Laws.EntriesVeiled
/-
  The library's search among names that rise, laid at this program: whether a name is one of them. Condition: no more than 1,000,000 names.
-/
namespace Go.Proofs.YtdmejcfnolhplaaGreatDoor.Fit
open Go Go.RowKit Go.Lib Go.Shelf Go.Proofs.YtdmejcfnolhplaaGreatDoor.Span Go.Proofs.YtdmejcfnolhplaaGreatDoor.Need Go.Proofs.YtdmejcfnolhplaaGreatDoor.Mani Go.Proofs.YtdmejcfnolhplaaGreatDoor.Wire Go.Proofs.YtdmejcfnolhplaaGreatDoor.Depot Go.Proofs.YtdmejcfnolhplaaGreatDoor.Index Go.Proofs.YtdmejcfnolhplaaGreatDoor.Reach Go.Proofs.YtdmejcfnolhplaaGreatDoor.Pick
set_option linter.unusedVariables false
def renB : Ren := ⟨fun | 26 => 70 | 33 => 97 | 34 => 98 | 38 => 124 | n => n, fun | 0 => 0 | 3 => 3 | 4 => 4 | 9 => 9 | 24 => 127 | 40 => 164 | n => n, fun n => n⟩
theorem laysB : Lays2.n26 Tryz.prog renB := {
  mixed := by kernel_rfl
  f26 := Tryz.func70.trans (congrArg some (by kernel_rfl))
  f33 := Tryz.func97.trans (congrArg some (by kernel_rfl))
  f34 := Tryz.func98.trans (congrArg some (by kernel_rfl))
  f38 := Tryz.func124.trans (congrArg some (by kernel_rfl))
  t0 := Tryz.underlying0
  a0 := Tryz.isAgg0
  z0 := Tryz.sizeOf0
  v0 := Tryz.zeroValue0
  t3 := Tryz.underlying3
  a3 := Tryz.isAgg3
  z3 := Tryz.sizeOf3
  v3 := Tryz.zeroValue3
  t4 := Tryz.underlying4
  a4 := Tryz.isAgg4
  z4 := Tryz.sizeOf4
  v4 := Tryz.zeroValue4
  t9 := Tryz.underlying9
  a9 := Tryz.isAgg9
  z9 := Tryz.sizeOf9
  v9 := Tryz.zeroValue9
  t24 := Tryz.underlying127
  a24 := Tryz.isAgg127
  z24 := Tryz.sizeOf127
  v24 := Tryz.zeroValue127
  t40 := Tryz.underlying164
  a40 := Tryz.isAgg164
  z40 := Tryz.sizeOf164
  v40 := Tryz.zeroValue164 }
def nameAt (L : List ByteArray) (x : ByteArray) (j : Nat) : ByteArray := (L[j]?).getD x
theorem first_not (x : ByteArray) : ∀ (L : List ByteArray), RisesN L → ∃ k, k ≤ L.length ∧ (∀ t, t < k → nlt (nameAt L x t) x = true) ∧ ∀ t, k ≤ t → nlt (nameAt L x t) x = false
  | [], _ => ⟨0, Nat.le_refl _, fun t h => by omega, fun t _ => nlt_self x⟩
  | y :: T, h => by
    obtain ⟨h1, h2⟩ := List.pairwise_cons.1 h
    obtain ⟨k, k1, k2, k3⟩ := first_not x T h2
    cases g : nlt y x with
    | true =>
      refine ⟨k + 1, by simpa using k1, fun t ht => ?_, fun t ht => ?_⟩
      · cases t with
        | zero => exact g
        | succ t => exact k2 t (by omega)
      · cases t with
        | zero => omega
        | succ t => exact k3 t (by omega)
    | false =>
      refine ⟨0, Nat.zero_le _, fun t ht => by omega, fun t _ => ?_⟩
      cases t with
      | zero => exact g
      | succ t =>
        show nlt ((T[t]?).getD x) x = false
        cases e : T[t]? with
        | none => exact nlt_self x
        | some z =>
          cases f : nlt z x with
          | false => exact f
          | true =>
            have := nlt_trans (h1 z (List.mem_of_getElem? e)) f
            rw [g] at this
            cases this
theorem search_told {L : List ByteArray} (h : RisesN L) (x : ByteArray) : ∃ k, k ≤ L.length ∧ Lib.bsGo (fun t => Op.bytesLess (nameAt L x t).toList x.toList) L.length 0 L.length = k ∧ decide (k < L.length ∧ nameAt L x k = x) = memB x L := by
  obtain ⟨k, k1, k2, k3⟩ := first_not x L h
  refine ⟨k, k1, Lib.bsGo_spec _ k k2 k3 _ _ _ (by omega) (Nat.zero_le _) k1, ?_⟩
  rw [Bool.eq_iff_iff, decide_eq_true_iff, memB_iff]
  constructor
  · rintro ⟨h1, h2⟩
    unfold nameAt at h2
    rw [List.getElem?_eq_getElem h1] at h2
    have h3 : L[k] = x := h2
    rw [← h3]
    exact List.getElem_mem _
  · intro hx
    obtain ⟨j, hj, e⟩ := List.getElem_of_mem hx
    have ej : nameAt L x j = x := by unfold nameAt; rw [List.getElem?_eq_getElem hj]; exact e
    rcases Nat.lt_trichotomy j k with g | g | g
    · have := k2 j g
      rw [ej, nlt_self] at this
      cases this
    · subst g
      exact ⟨hj, ej⟩
    · have h1 : k < L.length := by omega
      have h3 := List.pairwise_iff_getElem.1 h k j h1 hj g
      rw [e] at h3
      have h4 := k3 k (Nat.le_refl _)
      unfold nameAt at h4
      rw [List.getElem?_eq_getElem h1] at h4
      have h5 : nlt L[k] x = false := h4
      rw [h3] at h5
      cases h5
theorem spot_none {w : World} {ad : Addr} {v : Value} (h : w.cell? ad = some v) : ad.spot = none := by
  unfold World.cell? at h
  split at h
  · split at h
    · cases h
    · rename_i g
      cases e : ad.spot with
      | none => rfl
      | some _ => rw [e] at g; exact absurd rfl g
  · cases h
theorem bsearch_any (L : List ByteArray) (x : ByteArray) (A : Option Addr) (n c : Nat) (w : World) (h : TxOn w A n L) (hr : RisesN L) (hn : n ≤ 1000000) :
    Calls Tryz.prog 70 #[.slice A n c, .string x] w fun e w' => (∃ i : Int, e = .returned (.tuple #[.int .i64 i, .bool (memB x L)])) ∧ Below w.heap.size w w' := by
  have hlen := h.len
  rcases Nat.eq_zero_or_pos n with rfl | hp
  · have e : L = [] := List.eq_nil_of_length_eq_zero hlen
    subst e
    refine (Any2.slices_BinarySearch_string_empty laysB A c x w).mono ?_
    rintro e w' ⟨rfl, rfl⟩
    exact ⟨⟨0, rfl⟩, Below.refl _ _⟩
  · obtain ⟨ad, z, rfl, had, hz, hc⟩ := tcs_at h hp
    have hs : ad.spot = none := spot_none (by simpa [Addr.add] using hc)
    obtain ⟨b, o, s⟩ := ad
    simp only [] at hs
    subst hs
    obtain ⟨k, k1, k2, k3⟩ := search_told hr x
    rw [hlen] at k1 k2 k3
    refine (Any2.slices_BinarySearch_string laysB b o n c (nameAt L x) x w (by omega) fun j hj => ?_).mono ?_
    · obtain ⟨ad', z', e', _, hz', hc'⟩ := tcs_at h hj
      injection e' with e'
      subst e'
      have ez : nameAt L x j = z' := by unfold nameAt; rw [hz']; rfl
      rw [ez, ← hc']
      unfold Addr.add
      by_cases g : j = 0
      · subst g; simp
      · rw [if_neg g]
    · rintro e w' ⟨rfl, q, rfl⟩
      rw [k2, k3]
      exact ⟨⟨_, rfl⟩, below_drewN (Below.refl _ _) _⟩
end Go.Proofs.YtdmejcfnolhplaaGreatDoor.Fit
/-
  The contract of the program's first, over any closure of one captured variable that tells of a pick; and of the three closures that it is called with. Condition: what the closure captured stands in a block of its own; what is known is looked at.
-/
namespace Go.Proofs.YtdmejcfnolhplaaGreatDoor.Fit
open Go Go.RowKit Go.Lib Go.Proofs.YtdmejcfnolhplaaGreatDoor.Span Go.Proofs.YtdmejcfnolhplaaGreatDoor.Need Go.Proofs.YtdmejcfnolhplaaGreatDoor.Mani Go.Proofs.YtdmejcfnolhplaaGreatDoor.Wire Go.Proofs.YtdmejcfnolhplaaGreatDoor.Depot Go.Proofs.YtdmejcfnolhplaaGreatDoor.Index Go.Proofs.YtdmejcfnolhplaaGreatDoor.Reach Go.Proofs.YtdmejcfnolhplaaGreatDoor.Pick
set_option linter.unusedVariables false
theorem find_drop {l : List Pk} {P : Pk → Bool} {i : Nat} {q : Pk} (h : l[i]? = some q) : (l.drop i).find? P = if P q = true then some q else (l.drop (i + 1)).find? P := by
  obtain ⟨hi, e⟩ := List.getElem?_eq_some_iff.1 h
  rw [List.drop_eq_getElem_cons hi, e, List.find?_cons]
  cases g : P q <;> simp
set_option maxHeartbeats 4000000 in
set_option maxRecDepth 100000 in
theorem first_any (P : Pk → Bool) (f : FuncId) (u : Value) (l : List Pk) (A : Option Addr) (n c : Nat) (w : World)
    (eg : ∀ args w, (callFunc f args).run Tryz.prog w = .ok (.enter f args) w) (h : PkOn w A n l) (hn : n ≤ 1000000)
    (hK : ∀ (q : Pk) (wx : World), q ∈ l → Below w.heap.size w wx → Calls Tryz.prog f #[.agg #[.string q.1, .int .i64 q.2], u] wx fun e w' => e = .returned (.bool (P q)) ∧ Below wx.heap.size wx w') :
    Calls Tryz.prog 64 #[.slice A n c, .func (.func f) #[] #[u]] w fun e w' => e = .returned (.tuple #[.string (nameO (l.find? P)), .bool (l.find? P).isSome]) ∧ Below w.heap.size w w' := by
  have Hlen := hide h.len
  have Hd := hide (fun (i : Nat) (q : Pk) => @find_drop l P i q)
  have Hend : Hid ((l.drop n).find? P = none) := hide (by rw [List.drop_of_length_le (by have := Hlen.out; omega)]; rfl)
  have HK := hide hK
  obtain ⟨r, hr⟩ : ∃ r, r = l.find? P := ⟨_, rfl⟩
  rw [← hr]
  have Hr := hide hr
  clear hr hK
  go_enter Tryz.func64, Tryz.ntmps64
  go_wp2
  go_loopw [10] (fun v wr => ∃ (i : Nat), i ≤ n ∧ v = .int .i64 (i : Int) ∧ Hid (r = (l.drop i).find? P) ∧ Below w.heap.size w wr) (fun v _ => n - (RowKit.intOf v).toNat)
  case atStart => exact ⟨0, by omega, rfl, Hr, Below.refl _ _⟩
  case round =>
    obtain ⟨i, hi, rfl, hf, hb⟩ := hrel
    have hbs := hb.size
    by_cases hlt : i < n
    · obtain ⟨ad, q, rfl, hbl, hx, c1, c2⟩ := PkIn.at_ (PkIn.below h hb) hlt
      have hd := hf.out.trans (Hd.out i q hx)
      have HQ := hide (fun wx hb => HK.out q wx (List.mem_of_getElem? hx) hb)
      obtain ⟨x, v⟩ := q
      simp only [] at c1 c2 HQ
      have hba := hb.alloc hbs (.cells #[.string x, .int .i64 v] 50)
      have hB := Blk.new wr 50 #[.string x, .int .i64 v]
      clear hx hf h Hend Hr HK
      cases g : P (x, v) with
      | true =>
        rw [g] at HQ
        rw [if_pos g] at hd
        have e : Hid (r = some (x, v)) := hide hd
        clear hd g
        go_wp2_with (first
          | (go_at_fn f
             refine (HQ.out _ hba).mono ?_
             rintro e w1 ⟨rfl, hb1⟩
             have hbw := hba.trans (hb1.mono hba.size)
             have hB1 := hB.below hb1 hB.lt
             have k1 := hB1.cell 0))
        go_ret2
        exact ⟨by rw [e.out]; rfl, hbw⟩
      | false =>
        rw [g] at HQ
        rw [if_neg (by rw [g]; simp)] at hd
        have e : Hid (r = (l.drop (i + 1)).find? P) := hide hd
        clear hd g
        go_wp2_with (first
          | (go_at_fn f
             refine (HQ.out _ hba).mono ?_
             rintro e w1 ⟨rfl, hb1⟩
             have hbw := hba.trans (hb1.mono hba.size)))
        go_roundw
        case rel => exact ⟨i + 1, by omega, by go_num, e, hbw⟩
        case measure => simp [RowKit.intOf]; omega
    · have hi2 : i = n := by omega
      have e : r = none := by rw [hf.out, hi2]; exact Hend.out
      subst e
      clear hf Hr Hend h
      go_wp2
      go_ret2
      exact ⟨rfl, hb⟩
set_option maxHeartbeats 4000000 in
set_option maxRecDepth 100000 in
theorem unreleased1_any (X : List Kn) (nm : ByteArray) (v : Int) (o : Option Addr) (A Al : Option Addr) (n c nl cl g : Nat) (w : World) (hX : TellsX w (.pointer o) X) (hf : FineX X) (hnm : nm.size ≤ 1000000000)
    (hB : Blk w g 80 #[.pointer o, .slice A n c, .slice Al nl cl]) :
    Calls Tryz.prog 65 #[.agg #[.string nm, .int .i64 v], .pointer (some ⟨g, 0, none⟩)] w fun e w' => e = .returned (.bool (lacksX X (nm, v))) ∧ Below w.heap.size w w' := by
  have hba := alloc_b w (.cells #[.string nm, .int .i64 v] 50)
  have HR := hide (fun (wx : World) (hb : Below w.heap.size w wx) => release_any X nm v (.pointer o) wx (hX.on hb) hf hnm)
  unfold GetsI at HR
  have k0 := (hB.alloc (.cells #[.string nm, .int .i64 v] 50)).cell 0
  have e : lacksX X (nm, v) = !(relX X nm v).isSome := rfl
  rw [e]
  clear e hX hf hnm hB
  generalize relX X nm v = r at *
  go_enter Tryz.func65, Tryz.ntmps65
  go_wp2_with (first
    | (go_at_call 66
       refine (HR.out _ hba).mono ?_
       rintro e w1 ⟨A3, n3, c3, rfl, hN3, hb3⟩
       have hbw := hba.trans (hb3.mono hba.size)))
  go_ret
  exact ⟨by cases r <;> rfl, hbw.alloc hbw.size _⟩
theorem unmetX_is (X : List Kn) (l : List Pk) (p : Pk) : unmetX X l p = (unmetN l (needsX X p.1 p.2)).isSome := by
  unfold unmetX unmetN
  rw [Bool.eq_iff_iff, List.find?_isSome, List.any_eq_true]
set_option maxHeartbeats 4000000 in
set_option maxRecDepth 100000 in
theorem releaseUnmet1_any (X : List Kn) (l : List Pk) (nm : ByteArray) (v : Int) (o : Option Addr) (A Al : Option Addr) (n c nl cl g : Nat) (w : World) (hX : TellsX w (.pointer o) X) (hf : FineX X) (hS : SetX X) (hnm : nm.size ≤ 1000000000)
    (hl : PkOn w Al nl l) (hr : RisesP l) (hnl : nl ≤ 1000000)
    (hB : Blk w g 80 #[.pointer o, .slice A n c, .slice Al nl cl]) :
    Calls Tryz.prog 67 #[.agg #[.string nm, .int .i64 v], .pointer (some ⟨g, 0, none⟩)] w fun e w' => e = .returned (.bool (unmetX X l (nm, v))) ∧ Below w.heap.size w w' := by
  rw [unmetX_is]
  have hba := alloc_b w (.cells #[.string nm, .int .i64 v] 50)
  have HR := hide (fun (wx : World) (hb : Below w.heap.size w wx) => release_any X nm v (.pointer o) wx (hX.on hb) hf hnm)
  unfold GetsI at HR
  have eN : ((relX X nm v).getD (0, [])).2 = needsX X nm v := rfl
  rw [eN] at HR
  have hns := needs_sets hS nm v
  have HU := hide (fun (Ax : Option Addr) (nx cx : Nat) (wx : World) (hb : Below w.heap.size w wx) (hT : NdOn wx Ax nx (needsX X nm v)) => unmet_any (needsX X nm v) l Ax Al nx cx nl cl wx hT (hl.on hb) hr (by rw [← hT.len]; omega) hnl (fun q hq => by have := (hns.2 q hq).2; omega))
  have hB0 := hB.alloc (.cells #[.string nm, .int .i64 v] 50)
  have k0 := hB0.cell 0
  clear eN hX hf hnm hB hl hr hns
  show Calls _ _ _ _ fun e w' => e = .returned (.bool (unmetN l (needsX X nm v)).isSome) ∧ Below w.heap.size w w'
  generalize needsX X nm v = N at *
  go_enter Tryz.func67, Tryz.ntmps67
  go_wp2_with (first
    | (go_at_call 66
       refine (HR.out _ hba).mono ?_
       rintro e w1 ⟨A3, n3, c3, rfl, hN3, hb3⟩
       have hbw := hba.trans (hb3.mono hba.size)
       have hT4 := hN3.on.on (alloc_b w1 (.cells #[.int .i64 ((relX X nm v).getD (0, [])).1, .slice A3 n3 c3] 123))
       have hbw4 := hbw.alloc hbw.size (.cells #[.int .i64 ((relX X nm v).getD (0, [])).1, .slice A3 n3 c3] 123)
       have hB4 := (hB0.below hb3 hB0.lt).alloc (.cells #[.int .i64 ((relX X nm v).getD (0, [])).1, .slice A3 n3 c3] 123)
       have k4 := hB4.cell 2)
    | (go_at_call 63
       refine (HU.out _ _ _ _ hbw4 hT4).mono ?_
       rintro e w5 ⟨rfl, hb5⟩
       have hbw5 := hbw4.trans (hb5.mono hbw4.size)))
  go_ret
  exact ⟨rfl, hbw5⟩
set_option maxHeartbeats 4000000 in
set_option maxRecDepth 100000 in
theorem unneeded1_any (L : List ByteArray) (nm : ByteArray) (v : Int) (A : Option Addr) (n c g : Nat) (w : World) (hT : TxOn w A n L) (hr : RisesN L) (hn : n ≤ 1000000) (hB : Blk w g 127 #[.slice A n c]) :
    Calls Tryz.prog 69 #[.agg #[.string nm, .int .i64 v], .pointer (some ⟨g, 0, none⟩)] w fun e w' => e = .returned (.bool (!memB nm L)) ∧ Below w.heap.size w w' := by
  have hba := alloc_b w (.cells #[.string nm, .int .i64 v] 50)
  have HS := hide (bsearch_any L nm A n c (w.alloc (.cells #[.string nm, .int .i64 v] 50)) (hT.on hba) hr hn)
  have k0 := (hB.alloc (.cells #[.string nm, .int .i64 v] 50)).cell 0
  clear hT hr hn hB
  generalize memB nm L = b at *
  go_enter Tryz.func69, Tryz.ntmps69
  go_wp2_with (first
    | (go_at_call 70
       refine HS.out.mono ?_
       rintro e w1 ⟨⟨i, rfl⟩, hb1⟩
       have hbw := hba.trans (hb1.mono hba.size)))
  go_ret
  exact ⟨rfl, hbw⟩
end Go.Proofs.YtdmejcfnolhplaaGreatDoor.Fit
/-
  Contracts of the program's five rules, and of Wrong. Condition: what stands when the program is asked (AskedF).
-/
namespace Go.Proofs.YtdmejcfnolhplaaGreatDoor.Fit
open Go Go.RowKit Go.Lib Go.Proofs.YtdmejcfnolhplaaGreatDoor.Span Go.Proofs.YtdmejcfnolhplaaGreatDoor.Need Go.Proofs.YtdmejcfnolhplaaGreatDoor.Mani Go.Proofs.YtdmejcfnolhplaaGreatDoor.Wire Go.Proofs.YtdmejcfnolhplaaGreatDoor.Depot Go.Proofs.YtdmejcfnolhplaaGreatDoor.Index Go.Proofs.YtdmejcfnolhplaaGreatDoor.Reach Go.Proofs.YtdmejcfnolhplaaGreatDoor.Pick
open Go.Proofs.YtdmejcfnolhplaaGreatDoor.Ver (Units)
set_option linter.unusedVariables false
def RuleT (nm : ByteArray) (b : Bool) (w : World) (e : Ending) (w' : World) : Prop := e = .returned (.tuple #[.string nm, .bool b]) ∧ Below w.heap.size w w'
section
variable {X : List Kn} {root : List Nd} {l : List Pk} {pv : Value} {A : Option Addr} {n : Nat} {Al : Option Addr} {nl cl : Nat} {w : World}
set_option maxHeartbeats 4000000 in
set_option maxRecDepth 100000 in
theorem unfit_any (c : Nat) (ha : AskedF X root l pv A n Al nl cl w) :
    Calls Tryz.prog 43 #[.agg #[pv, .slice A n c, .slice Al nl cl]] w (RuleT ByteArray.empty (!okP l) w) := by
  obtain ⟨⟨⟨o, rfl⟩, hX⟩, hf, hS, hXl, h, hn, hok, hr, hp, hnc, hnl, hq, hU⟩ := ha
  unfold RuleT
  have hba := alloc_b w (.cells #[.pointer o, .slice A n c, .slice Al nl cl] 80)
  have HC := hide (checkP_any l Al nl cl _ (hp.on hba) (fun q h => by have := hq q h; omega) (by omega) (hU.below hba))
  generalize okP l = b at *
  clear hX hf hS hXl h hn hok hr hp hnc hnl hq hU
  go_enter Tryz.func43, Tryz.ntmps43
  go_wp2_with (first
    | (go_at_call 62
       refine HC.out.mono ?_
       rintro e w1 ⟨rfl, hb1⟩
       have hbw := hba.trans (hb1.mono hba.size)))
  go_ret2
  exact ⟨rfl, hbw⟩
set_option maxHeartbeats 4000000 in
set_option maxRecDepth 100000 in
theorem rootUnmet_any (c : Nat) (ha : AskedF X root l pv A n Al nl cl w) (hokP : okP l = true) :
    Calls Tryz.prog 44 #[.agg #[pv, .slice A n c, .slice Al nl cl]] w (RuleT (nameO (unmetN l root)) (unmetN l root).isSome w) := by
  obtain ⟨⟨⟨o, rfl⟩, hX⟩, hf, hS, hXl, h, hn, hok, hr, hp, hnc, hnl, hq, hU⟩ := ha
  unfold RuleT
  have hba := alloc_b w (.cells #[.pointer o, .slice A n c, .slice Al nl cl] 80)
  have HC := hide (unmet_any root l A Al n c nl cl _ (h.on hba) (hp.on hba) (okP_iff.1 hokP).1 (by omega) (by omega) (fun q hq => by have := ((okS_parts hok).2.2.2 q hq).2; omega))
  generalize unmetN l root = r at *
  clear hX hf hS hXl h hn hok hr hp hnc hnl hq hU hokP
  go_enter Tryz.func44, Tryz.ntmps44
  go_wp2_with (first
    | (go_at_call 63
       refine HC.out.mono ?_
       rintro e w1 ⟨rfl, hb1⟩
       have hbw := hba.trans (hb1.mono hba.size)))
  go_ret2
  exact ⟨rfl, hbw⟩
set_option maxHeartbeats 4000000 in
set_option maxRecDepth 100000 in
theorem unreleased_any (c : Nat) (ha : AskedF X root l pv A n Al nl cl w) :
    Calls Tryz.prog 45 #[.agg #[pv, .slice A n c, .slice Al nl cl]] w (RuleT (nameO (l.find? (lacksX X))) (l.find? (lacksX X)).isSome w) := by
  obtain ⟨⟨⟨o, rfl⟩, hX⟩, hf, hS, hXl, h, hn, hok, hr, hp, hnc, hnl, hq, hU⟩ := ha
  unfold RuleT
  have hba := alloc_b w (.cells #[.pointer o, .slice A n c, .slice Al nl cl] 80)
  have hB := Blk.new w 80 #[.pointer o, .slice A n c, .slice Al nl cl]
  have HC := hide (first_any (lacksX X) 65 (.pointer (some ⟨w.heap.size, 0, none⟩)) l Al nl cl _ (enters_of Tryz.func65 (by kernel_rfl) rfl) (hp.on hba) (by omega)
    fun q wx hm hb => unreleased1_any X q.1 q.2 o A Al n c nl cl w.heap.size wx ((hX.on hba).on hb) hf (by have := hq q hm; omega) (hB.below hb hB.lt))
  generalize l.find? (lacksX X) = r at *
  clear hX hf hS hXl h hn hok hr hp hnc hnl hq hU hB
  go_enter Tryz.func45, Tryz.ntmps45
  go_wp2_with (first
    | (go_at_call 64
       refine HC.out.mono ?_
       rintro e w1 ⟨rfl, hb1⟩
       have hbw := hba.trans (hb1.mono hba.size)))
  go_ret2
  exact ⟨rfl, hbw⟩
set_option maxHeartbeats 4000000 in
set_option maxRecDepth 100000 in
theorem releaseUnmet_any (c : Nat) (ha : AskedF X root l pv A n Al nl cl w) (hokP : okP l = true) :
    Calls Tryz.prog 46 #[.agg #[pv, .slice A n c, .slice Al nl cl]] w (RuleT (nameO (l.find? (unmetX X l))) (l.find? (unmetX X l)).isSome w) := by
  obtain ⟨⟨⟨o, rfl⟩, hX⟩, hf, hS, hXl, h, hn, hok, hr, hp, hnc, hnl, hq, hU⟩ := ha
  unfold RuleT
  have hba := alloc_b w (.cells #[.pointer o, .slice A n c, .slice Al nl cl] 80)
  have hB := Blk.new w 80 #[.pointer o, .slice A n c, .slice Al nl cl]
  have HC := hide (first_any (unmetX X l) 67 (.pointer (some ⟨w.heap.size, 0, none⟩)) l Al nl cl _ (enters_of Tryz.func67 (by kernel_rfl) rfl) (hp.on hba) (by omega)
    fun q wx hm hb => releaseUnmet1_any X l q.1 q.2 o A Al n c nl cl w.heap.size wx ((hX.on hba).on hb) hf hS (by have := hq q hm; omega) ((hp.on hba).on hb) (okP_iff.1 hokP).1 (by omega) (hB.below hb hB.lt))
  generalize l.find? (unmetX X l) = r at *
  clear hX hf hS hXl h hn hok hr hp hnc hnl hq hU hB hokP
  go_enter Tryz.func46, Tryz.ntmps46
  go_wp2_with (first
    | (go_at_call 64
       refine HC.out.mono ?_
       rintro e w1 ⟨rfl, hb1⟩
       have hbw := hba.trans (hb1.mono hba.size)))
  go_ret2
  exact ⟨rfl, hbw⟩
def idleX (X : List Kn) (root : List Nd) (l : List Pk) (p : Pk) : Bool := !memB p.1 (neededX X root l)
set_option maxHeartbeats 4000000 in
set_option maxRecDepth 100000 in
theorem unneeded_any (c : Nat) (ha : AskedF X root l pv A n Al nl cl w) (hokP : okP l = true) :
    Calls Tryz.prog 47 #[.agg #[pv, .slice A n c, .slice Al nl cl]] w (RuleT (nameO (l.find? (idleX X root l))) (l.find? (idleX X root l)).isSome w) := by
  have hba := alloc_b w (.cells #[pv, .slice A n c, .slice Al nl cl] 80)
  have HN := hide (specNeeded X root l pv A n c Al nl cl _ (ha.on hba) hokP)
  obtain ⟨⟨⟨o, rfl⟩, hX⟩, hf, hS, hXl, h, hn, hok, hr, hp, hnc, hnl, hq, hU⟩ := ha
  unfold RuleT
  unfold MakesT at HN
  have hB := Blk.new w 80 #[.pointer o, .slice A n c, .slice Al nl cl]
  have hno := needed_ok X root l
  have hlen : (neededX X root l).length ≤ 400 := len_may hS (by rw [h.len]; exact hn) (by rw [hp.len]; exact hnl) hno.1 fun z hz => (hno.2 z).1 hz
  have HC := hide (fun (A9 : Option Addr) (n9 c9 g : Nat) (w9 : World) (hb9 : Below w.heap.size w w9) (hT : TxOn w9 A9 n9 (neededX X root l)) (h9 : Blk w9 g 127 #[.slice A9 n9 c9]) =>
    first_any (idleX X root l) 69 (.pointer (some ⟨g, 0, none⟩)) l Al nl cl w9 (enters_of Tryz.func69 (by kernel_rfl) rfl) (hp.on hb9) (by omega)
    fun q wx hm hb => unneeded1_any (neededX X root l) q.1 q.2 A9 n9 c9 g wx (hT.on hb) hno.1 (by rw [← hT.len]; omega) (h9.below hb h9.lt))
  generalize l.find? (idleX X root l) = r at *
  clear hX hf hS hXl h hn hok hr hp hnc hnl hq hU hokP hno hlen
  generalize neededX X root l = L at *
  go_enter Tryz.func47, Tryz.ntmps47
  go_wp2_with (first
    | (go_at_call 68
       refine HN.out.mono ?_
       rintro e w1 ⟨A9, n9, c9, rfl, hT9, hb1⟩
       have hbw := hba.trans (hb1.mono hba.size)
       have hB1 := (hB.below hb1 hB.lt).alloc (.cells #[.slice A9 n9 c9] 127)
       have k2 := hB1.cell 2
       have hbw2 := hbw.alloc hbw.size (.cells #[.slice A9 n9 c9] 127)
       have hT2 := hT9.on (alloc_b w1 (.cells #[.slice A9 n9 c9] 127))
       have h92 := Blk.new w1 127 #[.slice A9 n9 c9])
    | (go_at_call 64
       refine (HC.out _ _ _ _ _ hbw2 hT2 h92).mono ?_
       rintro e w3 ⟨rfl, hb3⟩
       have hbw3 := hbw2.trans (hb3.mono hbw2.size)))
  go_ret2
  exact ⟨rfl, hbw3⟩
theorem wrong_is (X : List Kn) (root : List Nd) (l : List Pk) : wrongX X root l =
    if (!okP l) = true then (1, ByteArray.empty) else if (unmetN l root).isSome = true then (2, nameO (unmetN l root)) else if (l.find? (lacksX X)).isSome = true then (3, nameO (l.find? (lacksX X)))
    else if (l.find? (unmetX X l)).isSome = true then (4, nameO (l.find? (unmetX X l))) else if (l.find? (idleX X root l)).isSome = true then (5, nameO (l.find? (idleX X root l))) else (0, ByteArray.empty) := by
  unfold wrongX
  have e5 : (l.find? fun p : Pk => !memB p.1 (neededX X root l)) = l.find? (idleX X root l) := rfl
  have e2 : (root.find? fun q : Nd => !metP l q) = unmetN l root := rfl
  rw [e5, e2]
  cases okP l
  · rfl
  · rw [if_neg (by simp), if_neg (by simp)]
    cases unmetN l root with
    | some q => rfl
    | none =>
      cases l.find? (lacksX X) with
      | some q => rfl
      | none =>
        cases l.find? (unmetX X l) with
        | some q => rfl
        | none =>
          cases l.find? (idleX X root l) with
          | some q => rfl
          | none => rfl
theorem nameO_size {α : Type} {s : List (ByteArray × α)} {P : ByteArray × α → Bool} {k : Nat} (h : ∀ q ∈ s, q.1.size ≤ k) : (nameO (s.find? P)).size ≤ k := by
  unfold nameO
  cases e : s.find? P with
  | none => exact Nat.zero_le _
  | some q => exact h q (List.mem_of_find?_eq_some e)
end
section
variable {X : List Kn} {root : List Nd} {l : List Pk} {o : Option Addr} {A : Option Addr} {n c : Nat} {Al : Option Addr} {nl cl : Nat} {w : World}
set_option maxHeartbeats 8000000 in
set_option maxRecDepth 100000 in
theorem wrong1_any {x1 : ByteArray} (H1 : Hid (∀ wx : World, Below w.heap.size w wx → Calls Tryz.prog 43 #[.agg #[.pointer o, .slice A n c, .slice Al nl cl]] wx fun e w' => e = .returned (.tuple #[.string x1, .bool true]) ∧ Below wx.heap.size wx w')) (hx : x1.size ≤ 1000000000) :
    Calls Tryz.prog 21 #[.pointer o, .slice A n c, .slice Al nl cl] w fun e w' => e = .returned (.tuple #[.int .i64 1, .string x1]) ∧ Below w.heap.size w w' := by
  have hba := alloc_b w (.cells #[.pointer o, .slice A n c, .slice Al nl cl] 80)
  have hB := Blk.new w 80 #[.pointer o, .slice A n c, .slice Al nl cl]
  have H0 := hide (rules_any (w.alloc (.cells #[.pointer o, .slice A n c, .slice Al nl cl] 80)))
  have HC := hide (fun (wx : World) => Label.clone_any x1 wx hx)
  have i0 := rule_at0
  have i1 := rule_at1
  have i2 := rule_at2
  have i3 := rule_at3
  have i4 := rule_at4
  generalize rulesV = RV at *
  go_enter Tryz.func21, Tryz.ntmps21
  go_wp2_with (first
    | (go_at_call 33
       refine H0.out.mono ?_
       rintro e w0 ⟨rfl, hb0⟩
       have hbw0 := hba.trans (hb0.mono hba.size)
       have hB0 := hB.below hb0 hB.lt))
  clear hb0 H0 hba hB
  refine wp_loop_rounds 6 ?_
  have hbv1 := hbw0.alloc hbw0.size (.cells #[.int .i64 1, .func (.func 43) #[] #[]] 83)
  have hBv1 := hB0.alloc (.cells #[.int .i64 1, .func (.func 43) #[] #[]] 83)
  have q1_0 := hBv1.cell 0
  have q1_1 := hBv1.cell 1
  have q1_2 := hBv1.cell 2
  have hr1 := Blk.new w0 83 #[.int .i64 1, .func (.func 43) #[] #[]]
  rw [rounds_succ]
  go_upto_region 7 with (first
    | (go_at_call 43
       refine (H1.out _ hbv1).mono ?_
       rintro e w1 ⟨rfl, hb1⟩
       have hbw1 := hbv1.trans (hb1.mono hbv1.size)
       have hB1 := hBv1.below hb1 hBv1.lt
       have hs1 := hr1.below hb1 hr1.lt
       have s1 := hs1.cell 0))
  clear q1_0 q1_1 q1_2
  go_region_held3 (fun w' => w'.cell? ⟨w0.heap.size, 0, none⟩ = some (.int .i64 1)) (first | exact s9 | exact s1 | go_keep)
    (first
      | (go_at_call 27
         refine (HC.out _).mono ?_
         rintro e w9 ⟨rfl, hb9⟩
         have hbw9 : Below w.heap.size w w9 := (hbw1.drew).trans (hb9.mono hbw1.size)
         have s9 : w9.cell? ⟨w0.heap.size, 0, none⟩ = some (.int .i64 1) := (hb9.cell (p := ⟨w0.heap.size, 0, none⟩) hs1.lt).trans s1))
  go_wp2
  go_ret2
  exact ⟨rfl, hbw9⟩
set_option maxHeartbeats 8000000 in
set_option maxRecDepth 100000 in
theorem wrong2_any {x1 x2 : ByteArray} (H1 : Hid (∀ wx : World, Below w.heap.size w wx → Calls Tryz.prog 43 #[.agg #[.pointer o, .slice A n c, .slice Al nl cl]] wx fun e w' => e = .returned (.tuple #[.string x1, .bool false]) ∧ Below wx.heap.size wx w')) (H2 : Hid (∀ wx : World, Below w.heap.size w wx → Calls Tryz.prog 44 #[.agg #[.pointer o, .slice A n c, .slice Al nl cl]] wx fun e w' => e = .returned (.tuple #[.string x2, .bool true]) ∧ Below wx.heap.size wx w')) (hx : x2.size ≤ 1000000000) :
    Calls Tryz.prog 21 #[.pointer o, .slice A n c, .slice Al nl cl] w fun e w' => e = .returned (.tuple #[.int .i64 2, .string x2]) ∧ Below w.heap.size w w' := by
  have hba := alloc_b w (.cells #[.pointer o, .slice A n c, .slice Al nl cl] 80)
  have hB := Blk.new w 80 #[.pointer o, .slice A n c, .slice Al nl cl]
  have H0 := hide (rules_any (w.alloc (.cells #[.pointer o, .slice A n c, .slice Al nl cl] 80)))
  have HC := hide (fun (wx : World) => Label.clone_any x2 wx hx)
  have i0 := rule_at0
  have i1 := rule_at1
  have i2 := rule_at2
  have i3 := rule_at3
  have i4 := rule_at4
  generalize rulesV = RV at *
  go_enter Tryz.func21, Tryz.ntmps21
  go_wp2_with (first
    | (go_at_call 33
       refine H0.out.mono ?_
       rintro e w0 ⟨rfl, hb0⟩
       have hbw0 := hba.trans (hb0.mono hba.size)
       have hB0 := hB.below hb0 hB.lt))
  clear hb0 H0 hba hB
  refine wp_loop_rounds 6 ?_
  have hbv1 := hbw0.alloc hbw0.size (.cells #[.int .i64 1, .func (.func 43) #[] #[]] 83)
  have hBv1 := hB0.alloc (.cells #[.int .i64 1, .func (.func 43) #[] #[]] 83)
  have q1_0 := hBv1.cell 0
  have q1_1 := hBv1.cell 1
  have q1_2 := hBv1.cell 2
  have hr1 := Blk.new w0 83 #[.int .i64 1, .func (.func 43) #[] #[]]
  rw [rounds_succ]
  go_wp2_with (first
    | (go_at_call 43
       refine (H1.out _ hbv1).mono ?_
       rintro e w1 ⟨rfl, hb1⟩
       have hbw1 := hbv1.trans (hb1.mono hbv1.size)
       have hB1 := hBv1.below hb1 hBv1.lt
       have hs1 := hr1.below hb1 hr1.lt
       have s1 := hs1.cell 0))
  clear hbv1 hBv1 q1_0 q1_1 q1_2 hr1 hb1 hs1 s1
  have hbv2 := hbw1.alloc hbw1.size (.cells #[.int .i64 2, .func (.func 44) #[] #[]] 83)
  have hBv2 := hB1.alloc (.cells #[.int .i64 2, .func (.func 44) #[] #[]] 83)
  have q2_0 := hBv2.cell 0
  have q2_1 := hBv2.cell 1
  have q2_2 := hBv2.cell 2
  have hr2 := Blk.new w1 83 #[.int .i64 2, .func (.func 44) #[] #[]]
  rw [rounds_succ]
  go_upto_region 7 with (first
    | (go_at_call 44
       refine (H2.out _ hbv2).mono ?_
       rintro e w2 ⟨rfl, hb2⟩
       have hbw2 := hbv2.trans (hb2.mono hbv2.size)
       have hB2 := hBv2.below hb2 hBv2.lt
       have hs2 := hr2.below hb2 hr2.lt
       have s2 := hs2.cell 0))
  clear q2_0 q2_1 q2_2
  go_region_held3 (fun w' => w'.cell? ⟨w1.heap.size, 0, none⟩ = some (.int .i64 2)) (first | exact s9 | exact s2 | go_keep)
    (first
      | (go_at_call 27
         refine (HC.out _).mono ?_
         rintro e w9 ⟨rfl, hb9⟩
         have hbw9 : Below w.heap.size w w9 := (hbw2.drew).trans (hb9.mono hbw2.size)
         have s9 : w9.cell? ⟨w1.heap.size, 0, none⟩ = some (.int .i64 2) := (hb9.cell (p := ⟨w1.heap.size, 0, none⟩) hs2.lt).trans s2))
  go_wp2
  go_ret2
  exact ⟨rfl, hbw9⟩
set_option maxHeartbeats 8000000 in
set_option maxRecDepth 100000 in
theorem wrong3_any {x1 x2 x3 : ByteArray} (H1 : Hid (∀ wx : World, Below w.heap.size w wx → Calls Tryz.prog 43 #[.agg #[.pointer o, .slice A n c, .slice Al nl cl]] wx fun e w' => e = .returned (.tuple #[.string x1, .bool false]) ∧ Below wx.heap.size wx w')) (H2 : Hid (∀ wx : World, Below w.heap.size w wx → Calls Tryz.prog 44 #[.agg #[.pointer o, .slice A n c, .slice Al nl cl]] wx fun e w' => e = .returned (.tuple #[.string x2, .bool false]) ∧ Below wx.heap.size wx w')) (H3 : Hid (∀ wx : World, Below w.heap.size w wx → Calls Tryz.prog 45 #[.agg #[.pointer o, .slice A n c, .slice Al nl cl]] wx fun e w' => e = .returned (.tuple #[.string x3, .bool true]) ∧ Below wx.heap.size wx w')) (hx : x3.size ≤ 1000000000) :
    Calls Tryz.prog 21 #[.pointer o, .slice A n c, .slice Al nl cl] w fun e w' => e = .returned (.tuple #[.int .i64 3, .string x3]) ∧ Below w.heap.size w w' := by
  have hba := alloc_b w (.cells #[.pointer o, .slice A n c, .slice Al nl cl] 80)
  have hB := Blk.new w 80 #[.pointer o, .slice A n c, .slice Al nl cl]
  have H0 := hide (rules_any (w.alloc (.cells #[.pointer o, .slice A n c, .slice Al nl cl] 80)))
  have HC := hide (fun (wx : World) => Label.clone_any x3 wx hx)
  have i0 := rule_at0
  have i1 := rule_at1
  have i2 := rule_at2
  have i3 := rule_at3
  have i4 := rule_at4
  generalize rulesV = RV at *
  go_enter Tryz.func21, Tryz.ntmps21
  go_wp2_with (first
    | (go_at_call 33
       refine H0.out.mono ?_
       rintro e w0 ⟨rfl, hb0⟩
       have hbw0 := hba.trans (hb0.mono hba.size)
       have hB0 := hB.below hb0 hB.lt))
  clear hb0 H0 hba hB
  refine wp_loop_rounds 6 ?_
  have hbv1 := hbw0.alloc hbw0.size (.cells #[.int .i64 1, .func (.func 43) #[] #[]] 83)
  have hBv1 := hB0.alloc (.cells #[.int .i64 1, .func (.func 43) #[] #[]] 83)
  have q1_0 := hBv1.cell 0
  have q1_1 := hBv1.cell 1
  have q1_2 := hBv1.cell 2
  have hr1 := Blk.new w0 83 #[.int .i64 1, .func (.func 43) #[] #[]]
  rw [rounds_succ]
  go_wp2_with (first
    | (go_at_call 43
       refine (H1.out _ hbv1).mono ?_
       rintro e w1 ⟨rfl, hb1⟩
       have hbw1 := hbv1.trans (hb1.mono hbv1.size)
       have hB1 := hBv1.below hb1 hBv1.lt
       have hs1 := hr1.below hb1 hr1.lt
       have s1 := hs1.cell 0))
  clear hbv1 hBv1 q1_0 q1_1 q1_2 hr1 hb1 hs1 s1
  have hbv2 := hbw1.alloc hbw1.size (.cells #[.int .i64 2, .func (.func 44) #[] #[]] 83)
  have hBv2 := hB1.alloc (.cells #[.int .i64 2, .func (.func 44) #[] #[]] 83)
  have q2_0 := hBv2.cell 0
  have q2_1 := hBv2.cell 1
  have q2_2 := hBv2.cell 2
  have hr2 := Blk.new w1 83 #[.int .i64 2, .func (.func 44) #[] #[]]
  rw [rounds_succ]
  go_wp2_with (first
    | (go_at_call 44
       refine (H2.out _ hbv2).mono ?_
       rintro e w2 ⟨rfl, hb2⟩
       have hbw2 := hbv2.trans (hb2.mono hbv2.size)
       have hB2 := hBv2.below hb2 hBv2.lt
       have hs2 := hr2.below hb2 hr2.lt
       have s2 := hs2.cell 0))
  clear hbv2 hBv2 q2_0 q2_1 q2_2 hr2 hb2 hs2 s2
  have hbv3 := hbw2.alloc hbw2.size (.cells #[.int .i64 3, .func (.func 45) #[] #[]] 83)
  have hBv3 := hB2.alloc (.cells #[.int .i64 3, .func (.func 45) #[] #[]] 83)
  have q3_0 := hBv3.cell 0
  have q3_1 := hBv3.cell 1
  have q3_2 := hBv3.cell 2
  have hr3 := Blk.new w2 83 #[.int .i64 3, .func (.func 45) #[] #[]]
  rw [rounds_succ]
  go_upto_region 7 with (first
    | (go_at_call 45
       refine (H3.out _ hbv3).mono ?_
       rintro e w3 ⟨rfl, hb3⟩
       have hbw3 := hbv3.trans (hb3.mono hbv3.size)
       have hB3 := hBv3.below hb3 hBv3.lt
       have hs3 := hr3.below hb3 hr3.lt
       have s3 := hs3.cell 0))
  clear q3_0 q3_1 q3_2
  go_region_held3 (fun w' => w'.cell? ⟨w2.heap.size, 0, none⟩ = some (.int .i64 3)) (first | exact s9 | exact s3 | go_keep)
    (first
      | (go_at_call 27
         refine (HC.out _).mono ?_
         rintro e w9 ⟨rfl, hb9⟩
         have hbw9 : Below w.heap.size w w9 := (hbw3.drew).trans (hb9.mono hbw3.size)
         have s9 : w9.cell? ⟨w2.heap.size, 0, none⟩ = some (.int .i64 3) := (hb9.cell (p := ⟨w2.heap.size, 0, none⟩) hs3.lt).trans s3))
  go_wp2
  go_ret2
  exact ⟨rfl, hbw9⟩
set_option maxHeartbeats 8000000 in
set_option maxRecDepth 100000 in
theorem wrong4_any {x1 x2 x3 x4 : ByteArray} (H1 : Hid (∀ wx : World, Below w.heap.size w wx → Calls Tryz.prog 43 #[.agg #[.pointer o, .slice A n c, .slice Al nl cl]] wx fun e w' => e = .returned (.tuple #[.string x1, .bool false]) ∧ Below wx.heap.size wx w')) (H2 : Hid (∀ wx : World, Below w.heap.size w wx → Calls Tryz.prog 44 #[.agg #[.pointer o, .slice A n c, .slice Al nl cl]] wx fun e w' => e = .returned (.tuple #[.string x2, .bool false]) ∧ Below wx.heap.size wx w')) (H3 : Hid (∀ wx : World, Below w.heap.size w wx → Calls Tryz.prog 45 #[.agg #[.pointer o, .slice A n c, .slice Al nl cl]] wx fun e w' => e = .returned (.tuple #[.string x3, .bool false]) ∧ Below wx.heap.size wx w')) (H4 : Hid (∀ wx : World, Below w.heap.size w wx → Calls Tryz.prog 46 #[.agg #[.pointer o, .slice A n c, .slice Al nl cl]] wx fun e w' => e = .returned (.tuple #[.string x4, .bool true]) ∧ Below wx.heap.size wx w')) (hx : x4.size ≤ 1000000000) :
    Calls Tryz.prog 21 #[.pointer o, .slice A n c, .slice Al nl cl] w fun e w' => e = .returned (.tuple #[.int .i64 4, .string x4]) ∧ Below w.heap.size w w' := by
  have hba := alloc_b w (.cells #[.pointer o, .slice A n c, .slice Al nl cl] 80)
  have hB := Blk.new w 80 #[.pointer o, .slice A n c, .slice Al nl cl]
  have H0 := hide (rules_any (w.alloc (.cells #[.pointer o, .slice A n c, .slice Al nl cl] 80)))
  have HC := hide (fun (wx : World) => Label.clone_any x4 wx hx)
  have i0 := rule_at0
  have i1 := rule_at1
  have i2 := rule_at2
  have i3 := rule_at3
  have i4 := rule_at4
  generalize rulesV = RV at *
  go_enter Tryz.func21, Tryz.ntmps21
  go_wp2_with (first
    | (go_at_call 33
       refine H0.out.mono ?_
       rintro e w0 ⟨rfl, hb0⟩
       have hbw0 := hba.trans (hb0.mono hba.size)
       have hB0 := hB.below hb0 hB.lt))
  clear hb0 H0 hba hB
  refine wp_loop_rounds 6 ?_
  have hbv1 := hbw0.alloc hbw0.size (.cells #[.int .i64 1, .func (.func 43) #[] #[]] 83)
  have hBv1 := hB0.alloc (.cells #[.int .i64 1, .func (.func 43) #[] #[]] 83)
  have q1_0 := hBv1.cell 0
  have q1_1 := hBv1.cell 1
  have q1_2 := hBv1.cell 2
  have hr1 := Blk.new w0 83 #[.int .i64 1, .func (.func 43) #[] #[]]
  rw [rounds_succ]
  go_wp2_with (first
    | (go_at_call 43
       refine (H1.out _ hbv1).mono ?_
       rintro e w1 ⟨rfl, hb1⟩
       have hbw1 := hbv1.trans (hb1.mono hbv1.size)
       have hB1 := hBv1.below hb1 hBv1.lt
       have hs1 := hr1.below hb1 hr1.lt
       have s1 := hs1.cell 0))
  clear hbv1 hBv1 q1_0 q1_1 q1_2 hr1 hb1 hs1 s1
  have hbv2 := hbw1.alloc hbw1.size (.cells #[.int .i64 2, .func (.func 44) #[] #[]] 83)
  have hBv2 := hB1.alloc (.cells #[.int .i64 2, .func (.func 44) #[] #[]] 83)
  have q2_0 := hBv2.cell 0
  have q2_1 := hBv2.cell 1
  have q2_2 := hBv2.cell 2
  have hr2 := Blk.new w1 83 #[.int .i64 2, .func (.func 44) #[] #[]]
  rw [rounds_succ]
  go_wp2_with (first
    | (go_at_call 44
       refine (H2.out _ hbv2).mono ?_
       rintro e w2 ⟨rfl, hb2⟩
       have hbw2 := hbv2.trans (hb2.mono hbv2.size)
       have hB2 := hBv2.below hb2 hBv2.lt
       have hs2 := hr2.below hb2 hr2.lt
       have s2 := hs2.cell 0))
  clear hbv2 hBv2 q2_0 q2_1 q2_2 hr2 hb2 hs2 s2
  have hbv3 := hbw2.alloc hbw2.size (.cells #[.int .i64 3, .func (.func 45) #[] #[]] 83)
  have hBv3 := hB2.alloc (.cells #[.int .i64 3, .func (.func 45) #[] #[]] 83)
  have q3_0 := hBv3.cell 0
  have q3_1 := hBv3.cell 1
  have q3_2 := hBv3.cell 2
  have hr3 := Blk.new w2 83 #[.int .i64 3, .func (.func 45) #[] #[]]
  rw [rounds_succ]
  go_wp2_with (first
    | (go_at_call 45
       refine (H3.out _ hbv3).mono ?_
       rintro e w3 ⟨rfl, hb3⟩
       have hbw3 := hbv3.trans (hb3.mono hbv3.size)
       have hB3 := hBv3.below hb3 hBv3.lt
       have hs3 := hr3.below hb3 hr3.lt
       have s3 := hs3.cell 0))
  clear hbv3 hBv3 q3_0 q3_1 q3_2 hr3 hb3 hs3 s3
  have hbv4 := hbw3.alloc hbw3.size (.cells #[.int .i64 4, .func (.func 46) #[] #[]] 83)
  have hBv4 := hB3.alloc (.cells #[.int .i64 4, .func (.func 46) #[] #[]] 83)
  have q4_0 := hBv4.cell 0
  have q4_1 := hBv4.cell 1
  have q4_2 := hBv4.cell 2
  have hr4 := Blk.new w3 83 #[.int .i64 4, .func (.func 46) #[] #[]]
  rw [rounds_succ]
  go_upto_region 7 with (first
    | (go_at_call 46
       refine (H4.out _ hbv4).mono ?_
       rintro e w4 ⟨rfl, hb4⟩
       have hbw4 := hbv4.trans (hb4.mono hbv4.size)
       have hB4 := hBv4.below hb4 hBv4.lt
       have hs4 := hr4.below hb4 hr4.lt
       have s4 := hs4.cell 0))
  clear q4_0 q4_1 q4_2
  go_region_held3 (fun w' => w'.cell? ⟨w3.heap.size, 0, none⟩ = some (.int .i64 4)) (first | exact s9 | exact s4 | go_keep)
    (first
      | (go_at_call 27
         refine (HC.out _).mono ?_
         rintro e w9 ⟨rfl, hb9⟩
         have hbw9 : Below w.heap.size w w9 := (hbw4.drew).trans (hb9.mono hbw4.size)
         have s9 : w9.cell? ⟨w3.heap.size, 0, none⟩ = some (.int .i64 4) := (hb9.cell (p := ⟨w3.heap.size, 0, none⟩) hs4.lt).trans s4))
  go_wp2
  go_ret2
  exact ⟨rfl, hbw9⟩
set_option maxHeartbeats 8000000 in
set_option maxRecDepth 100000 in
theorem wrong5_any {x1 x2 x3 x4 x5 : ByteArray} (H1 : Hid (∀ wx : World, Below w.heap.size w wx → Calls Tryz.prog 43 #[.agg #[.pointer o, .slice A n c, .slice Al nl cl]] wx fun e w' => e = .returned (.tuple #[.string x1, .bool false]) ∧ Below wx.heap.size wx w')) (H2 : Hid (∀ wx : World, Below w.heap.size w wx → Calls Tryz.prog 44 #[.agg #[.pointer o, .slice A n c, .slice Al nl cl]] wx fun e w' => e = .returned (.tuple #[.string x2, .bool false]) ∧ Below wx.heap.size wx w')) (H3 : Hid (∀ wx : World, Below w.heap.size w wx → Calls Tryz.prog 45 #[.agg #[.pointer o, .slice A n c, .slice Al nl cl]] wx fun e w' => e = .returned (.tuple #[.string x3, .bool false]) ∧ Below wx.heap.size wx w')) (H4 : Hid (∀ wx : World, Below w.heap.size w wx → Calls Tryz.prog 46 #[.agg #[.pointer o, .slice A n c, .slice Al nl cl]] wx fun e w' => e = .returned (.tuple #[.string x4, .bool false]) ∧ Below wx.heap.size wx w')) (H5 : Hid (∀ wx : World, Below w.heap.size w wx → Calls Tryz.prog 47 #[.agg #[.pointer o, .slice A n c, .slice Al nl cl]] wx fun e w' => e = .returned (.tuple #[.string x5, .bool true]) ∧ Below wx.heap.size wx w')) (hx : x5.size ≤ 1000000000) :
    Calls Tryz.prog 21 #[.pointer o, .slice A n c, .slice Al nl cl] w fun e w' => e = .returned (.tuple #[.int .i64 5, .string x5]) ∧ Below w.heap.size w w' := by
  have hba := alloc_b w (.cells #[.pointer o, .slice A n c, .slice Al nl cl] 80)
  have hB := Blk.new w 80 #[.pointer o, .slice A n c, .slice Al nl cl]
  have H0 := hide (rules_any (w.alloc (.cells #[.pointer o, .slice A n c, .slice Al nl cl] 80)))
  have HC := hide (fun (wx : World) => Label.clone_any x5 wx hx)
  have i0 := rule_at0
  have i1 := rule_at1
  have i2 := rule_at2
  have i3 := rule_at3
  have i4 := rule_at4
  generalize rulesV = RV at *
  go_enter Tryz.func21, Tryz.ntmps21
  go_wp2_with (first
    | (go_at_call 33
       refine H0.out.mono ?_
       rintro e w0 ⟨rfl, hb0⟩
       have hbw0 := hba.trans (hb0.mono hba.size)
       have hB0 := hB.below hb0 hB.lt))
  clear hb0 H0 hba hB
  refine wp_loop_rounds 6 ?_
  have hbv1 := hbw0.alloc hbw0.size (.cells #[.int .i64 1, .func (.func 43) #[] #[]] 83)
  have hBv1 := hB0.alloc (.cells #[.int .i64 1, .func (.func 43) #[] #[]] 83)
  have q1_0 := hBv1.cell 0
  have q1_1 := hBv1.cell 1
  have q1_2 := hBv1.cell 2
  have hr1 := Blk.new w0 83 #[.int .i64 1, .func (.func 43) #[] #[]]
  rw [rounds_succ]
  go_wp2_with (first
    | (go_at_call 43
       refine (H1.out _ hbv1).mono ?_
       rintro e w1 ⟨rfl, hb1⟩
       have hbw1 := hbv1.trans (hb1.mono hbv1.size)
       have hB1 := hBv1.below hb1 hBv1.lt
       have hs1 := hr1.below hb1 hr1.lt
       have s1 := hs1.cell 0))
  clear hbv1 hBv1 q1_0 q1_1 q1_2 hr1 hb1 hs1 s1
  have hbv2 := hbw1.alloc hbw1.size (.cells #[.int .i64 2, .func (.func 44) #[] #[]] 83)
  have hBv2 := hB1.alloc (.cells #[.int .i64 2, .func (.func 44) #[] #[]] 83)
  have q2_0 := hBv2.cell 0
  have q2_1 := hBv2.cell 1
  have q2_2 := hBv2.cell 2
  have hr2 := Blk.new w1 83 #[.int .i64 2, .func (.func 44) #[] #[]]
  rw [rounds_succ]
  go_wp2_with (first
    | (go_at_call 44
       refine (H2.out _ hbv2).mono ?_
       rintro e w2 ⟨rfl, hb2⟩
       have hbw2 := hbv2.trans (hb2.mono hbv2.size)
       have hB2 := hBv2.below hb2 hBv2.lt
       have hs2 := hr2.below hb2 hr2.lt
       have s2 := hs2.cell 0))
  clear hbv2 hBv2 q2_0 q2_1 q2_2 hr2 hb2 hs2 s2
  have hbv3 := hbw2.alloc hbw2.size (.cells #[.int .i64 3, .func (.func 45) #[] #[]] 83)
  have hBv3 := hB2.alloc (.cells #[.int .i64 3, .func (.func 45) #[] #[]] 83)
  have q3_0 := hBv3.cell 0
  have q3_1 := hBv3.cell 1
  have q3_2 := hBv3.cell 2
  have hr3 := Blk.new w2 83 #[.int .i64 3, .func (.func 45) #[] #[]]
  rw [rounds_succ]
  go_wp2_with (first
    | (go_at_call 45
       refine (H3.out _ hbv3).mono ?_
       rintro e w3 ⟨rfl, hb3⟩
       have hbw3 := hbv3.trans (hb3.mono hbv3.size)
       have hB3 := hBv3.below hb3 hBv3.lt
       have hs3 := hr3.below hb3 hr3.lt
       have s3 := hs3.cell 0))
  clear hbv3 hBv3 q3_0 q3_1 q3_2 hr3 hb3 hs3 s3
  have hbv4 := hbw3.alloc hbw3.size (.cells #[.int .i64 4, .func (.func 46) #[] #[]] 83)
  have hBv4 := hB3.alloc (.cells #[.int .i64 4, .func (.func 46) #[] #[]] 83)
  have q4_0 := hBv4.cell 0
  have q4_1 := hBv4.cell 1
  have q4_2 := hBv4.cell 2
  have hr4 := Blk.new w3 83 #[.int .i64 4, .func (.func 46) #[] #[]]
  rw [rounds_succ]
  go_wp2_with (first
    | (go_at_call 46
       refine (H4.out _ hbv4).mono ?_
       rintro e w4 ⟨rfl, hb4⟩
       have hbw4 := hbv4.trans (hb4.mono hbv4.size)
       have hB4 := hBv4.below hb4 hBv4.lt
       have hs4 := hr4.below hb4 hr4.lt
       have s4 := hs4.cell 0))
  clear hbv4 hBv4 q4_0 q4_1 q4_2 hr4 hb4 hs4 s4
  have hbv5 := hbw4.alloc hbw4.size (.cells #[.int .i64 5, .func (.func 47) #[] #[]] 83)
  have hBv5 := hB4.alloc (.cells #[.int .i64 5, .func (.func 47) #[] #[]] 83)
  have q5_0 := hBv5.cell 0
  have q5_1 := hBv5.cell 1
  have q5_2 := hBv5.cell 2
  have hr5 := Blk.new w4 83 #[.int .i64 5, .func (.func 47) #[] #[]]
  rw [rounds_succ]
  go_upto_region 7 with (first
    | (go_at_call 47
       refine (H5.out _ hbv5).mono ?_
       rintro e w5 ⟨rfl, hb5⟩
       have hbw5 := hbv5.trans (hb5.mono hbv5.size)
       have hB5 := hBv5.below hb5 hBv5.lt
       have hs5 := hr5.below hb5 hr5.lt
       have s5 := hs5.cell 0))
  clear q5_0 q5_1 q5_2
  go_region_held3 (fun w' => w'.cell? ⟨w4.heap.size, 0, none⟩ = some (.int .i64 5)) (first | exact s9 | exact s5 | go_keep)
    (first
      | (go_at_call 27
         refine (HC.out _).mono ?_
         rintro e w9 ⟨rfl, hb9⟩
         have hbw9 : Below w.heap.size w w9 := (hbw5.drew).trans (hb9.mono hbw5.size)
         have s9 : w9.cell? ⟨w4.heap.size, 0, none⟩ = some (.int .i64 5) := (hb9.cell (p := ⟨w4.heap.size, 0, none⟩) hs5.lt).trans s5))
  go_wp2
  go_ret2
  exact ⟨rfl, hbw9⟩
set_option maxHeartbeats 8000000 in
set_option maxRecDepth 100000 in
theorem wrong6_any {x1 x2 x3 x4 x5 : ByteArray} (H1 : Hid (∀ wx : World, Below w.heap.size w wx → Calls Tryz.prog 43 #[.agg #[.pointer o, .slice A n c, .slice Al nl cl]] wx fun e w' => e = .returned (.tuple #[.string x1, .bool false]) ∧ Below wx.heap.size wx w')) (H2 : Hid (∀ wx : World, Below w.heap.size w wx → Calls Tryz.prog 44 #[.agg #[.pointer o, .slice A n c, .slice Al nl cl]] wx fun e w' => e = .returned (.tuple #[.string x2, .bool false]) ∧ Below wx.heap.size wx w')) (H3 : Hid (∀ wx : World, Below w.heap.size w wx → Calls Tryz.prog 45 #[.agg #[.pointer o, .slice A n c, .slice Al nl cl]] wx fun e w' => e = .returned (.tuple #[.string x3, .bool false]) ∧ Below wx.heap.size wx w')) (H4 : Hid (∀ wx : World, Below w.heap.size w wx → Calls Tryz.prog 46 #[.agg #[.pointer o, .slice A n c, .slice Al nl cl]] wx fun e w' => e = .returned (.tuple #[.string x4, .bool false]) ∧ Below wx.heap.size wx w')) (H5 : Hid (∀ wx : World, Below w.heap.size w wx → Calls Tryz.prog 47 #[.agg #[.pointer o, .slice A n c, .slice Al nl cl]] wx fun e w' => e = .returned (.tuple #[.string x5, .bool false]) ∧ Below wx.heap.size wx w')) :
    Calls Tryz.prog 21 #[.pointer o, .slice A n c, .slice Al nl cl] w fun e w' => e = .returned (.tuple #[.int .i64 0, .string ByteArray.empty]) ∧ Below w.heap.size w w' := by
  have hba := alloc_b w (.cells #[.pointer o, .slice A n c, .slice Al nl cl] 80)
  have hB := Blk.new w 80 #[.pointer o, .slice A n c, .slice Al nl cl]
  have H0 := hide (rules_any (w.alloc (.cells #[.pointer o, .slice A n c, .slice Al nl cl] 80)))
  have i0 := rule_at0
  have i1 := rule_at1
  have i2 := rule_at2
  have i3 := rule_at3
  have i4 := rule_at4
  generalize rulesV = RV at *
  go_enter Tryz.func21, Tryz.ntmps21
  go_wp2_with (first
    | (go_at_call 33
       refine H0.out.mono ?_
       rintro e w0 ⟨rfl, hb0⟩
       have hbw0 := hba.trans (hb0.mono hba.size)
       have hB0 := hB.below hb0 hB.lt))
  clear hb0 H0 hba hB
  refine wp_loop_rounds 6 ?_
  have hbv1 := hbw0.alloc hbw0.size (.cells #[.int .i64 1, .func (.func 43) #[] #[]] 83)
  have hBv1 := hB0.alloc (.cells #[.int .i64 1, .func (.func 43) #[] #[]] 83)
  have q1_0 := hBv1.cell 0
  have q1_1 := hBv1.cell 1
  have q1_2 := hBv1.cell 2
  have hr1 := Blk.new w0 83 #[.int .i64 1, .func (.func 43) #[] #[]]
  rw [rounds_succ]
  go_wp2_with (first
    | (go_at_call 43
       refine (H1.out _ hbv1).mono ?_
       rintro e w1 ⟨rfl, hb1⟩
       have hbw1 := hbv1.trans (hb1.mono hbv1.size)
       have hB1 := hBv1.below hb1 hBv1.lt
       have hs1 := hr1.below hb1 hr1.lt
       have s1 := hs1.cell 0))
  clear hbv1 hBv1 q1_0 q1_1 q1_2 hr1 hb1 hs1 s1
  have hbv2 := hbw1.alloc hbw1.size (.cells #[.int .i64 2, .func (.func 44) #[] #[]] 83)
  have hBv2 := hB1.alloc (.cells #[.int .i64 2, .func (.func 44) #[] #[]] 83)
  have q2_0 := hBv2.cell 0
  have q2_1 := hBv2.cell 1
  have q2_2 := hBv2.cell 2
  have hr2 := Blk.new w1 83 #[.int .i64 2, .func (.func 44) #[] #[]]
  rw [rounds_succ]
  go_wp2_with (first
    | (go_at_call 44
       refine (H2.out _ hbv2).mono ?_
       rintro e w2 ⟨rfl, hb2⟩
       have hbw2 := hbv2.trans (hb2.mono hbv2.size)
       have hB2 := hBv2.below hb2 hBv2.lt
       have hs2 := hr2.below hb2 hr2.lt
       have s2 := hs2.cell 0))
  clear hbv2 hBv2 q2_0 q2_1 q2_2 hr2 hb2 hs2 s2
  have hbv3 := hbw2.alloc hbw2.size (.cells #[.int .i64 3, .func (.func 45) #[] #[]] 83)
  have hBv3 := hB2.alloc (.cells #[.int .i64 3, .func (.func 45) #[] #[]] 83)
  have q3_0 := hBv3.cell 0
  have q3_1 := hBv3.cell 1
  have q3_2 := hBv3.cell 2
  have hr3 := Blk.new w2 83 #[.int .i64 3, .func (.func 45) #[] #[]]
  rw [rounds_succ]
  go_wp2_with (first
    | (go_at_call 45
       refine (H3.out _ hbv3).mono ?_
       rintro e w3 ⟨rfl, hb3⟩
       have hbw3 := hbv3.trans (hb3.mono hbv3.size)
       have hB3 := hBv3.below hb3 hBv3.lt
       have hs3 := hr3.below hb3 hr3.lt
       have s3 := hs3.cell 0))
  clear hbv3 hBv3 q3_0 q3_1 q3_2 hr3 hb3 hs3 s3
  have hbv4 := hbw3.alloc hbw3.size (.cells #[.int .i64 4, .func (.func 46) #[] #[]] 83)
  have hBv4 := hB3.alloc (.cells #[.int .i64 4, .func (.func 46) #[] #[]] 83)
  have q4_0 := hBv4.cell 0
  have q4_1 := hBv4.cell 1
  have q4_2 := hBv4.cell 2
  have hr4 := Blk.new w3 83 #[.int .i64 4, .func (.func 46) #[] #[]]
  rw [rounds_succ]
  go_wp2_with (first
    | (go_at_call 46
       refine (H4.out _ hbv4).mono ?_
       rintro e w4 ⟨rfl, hb4⟩
       have hbw4 := hbv4.trans (hb4.mono hbv4.size)
       have hB4 := hBv4.below hb4 hBv4.lt
       have hs4 := hr4.below hb4 hr4.lt
       have s4 := hs4.cell 0))
  clear hbv4 hBv4 q4_0 q4_1 q4_2 hr4 hb4 hs4 s4
  have hbv5 := hbw4.alloc hbw4.size (.cells #[.int .i64 5, .func (.func 47) #[] #[]] 83)
  have hBv5 := hB4.alloc (.cells #[.int .i64 5, .func (.func 47) #[] #[]] 83)
  have q5_0 := hBv5.cell 0
  have q5_1 := hBv5.cell 1
  have q5_2 := hBv5.cell 2
  have hr5 := Blk.new w4 83 #[.int .i64 5, .func (.func 47) #[] #[]]
  rw [rounds_succ]
  go_wp2_with (first
    | (go_at_call 47
       refine (H5.out _ hbv5).mono ?_
       rintro e w5 ⟨rfl, hb5⟩
       have hbw5 := hbv5.trans (hb5.mono hbv5.size)
       have hB5 := hBv5.below hb5 hBv5.lt
       have hs5 := hr5.below hb5 hr5.lt
       have s5 := hs5.cell 0))
  clear hbv5 hBv5 q5_0 q5_1 q5_2 hr5 hb5 hs5 s5
  rw [rounds_succ]
  go_wp2
  go_ret2
  exact ⟨rfl, hbw5⟩
end
end Go.Proofs.YtdmejcfnolhplaaGreatDoor.Fit
/-
  The contracts of the program's Wrong and Solution. Condition: what stands when the program is asked (AskedF).
-/
namespace Go.Proofs.YtdmejcfnolhplaaGreatDoor.Fit
open Go Go.RowKit Go.Lib Go.Proofs.YtdmejcfnolhplaaGreatDoor.Span Go.Proofs.YtdmejcfnolhplaaGreatDoor.Need Go.Proofs.YtdmejcfnolhplaaGreatDoor.Mani Go.Proofs.YtdmejcfnolhplaaGreatDoor.Wire Go.Proofs.YtdmejcfnolhplaaGreatDoor.Depot Go.Proofs.YtdmejcfnolhplaaGreatDoor.Index Go.Proofs.YtdmejcfnolhplaaGreatDoor.Reach Go.Proofs.YtdmejcfnolhplaaGreatDoor.Pick
set_option linter.unusedVariables false
set_option maxRecDepth 100000 in
theorem specWrong : SpecWrong := by
  intro X root l pv A n c Al nl cl w ha
  have hrs : ∀ q ∈ root, q.1.size ≤ 1000000000 := fun q hq => by have := ha.2.2.2.2.2.2.2.1 q hq; omega
  have hls : ∀ q ∈ l, q.1.size ≤ 1000000000 := fun q hq => by have := ha.2.2.2.2.2.2.2.2.2.2.2.1 q hq; omega
  have z1 : ByteArray.empty.size ≤ 1000000000 := Nat.zero_le _
  have z2 : (nameO (unmetN l root)).size ≤ 1000000000 := nameO_size hrs
  have z3 : (nameO (l.find? (lacksX X))).size ≤ 1000000000 := nameO_size hls
  have z4 : (nameO (l.find? (unmetX X l))).size ≤ 1000000000 := nameO_size hls
  have z5 : (nameO (l.find? (idleX X root l))).size ≤ 1000000000 := nameO_size hls
  have H1 := hide (fun (wx : World) (hb : Below w.heap.size w wx) => unfit_any c (ha.on hb))
  have H3 := hide (fun (wx : World) (hb : Below w.heap.size w wx) => unreleased_any c (ha.on hb))
  rw [wrong_is]
  cases hok : okP l with
  | false =>
    unfold RuleT at H1
    rw [hok] at H1
    obtain ⟨o, rfl⟩ := ha.1.1
    rw [if_pos (show (!false) = true from rfl)]
    exact wrong1_any H1 z1
  | true =>
    have H2 := hide (fun (wx : World) (hb : Below w.heap.size w wx) => rootUnmet_any c (ha.on hb) hok)
    have H4 := hide (fun (wx : World) (hb : Below w.heap.size w wx) => releaseUnmet_any c (ha.on hb) hok)
    have H5 := hide (fun (wx : World) (hb : Below w.heap.size w wx) => unneeded_any c (ha.on hb) hok)
    unfold RuleT at H1 H2 H3 H4 H5
    rw [hok] at H1
    obtain ⟨o, rfl⟩ := ha.1.1
    rw [if_neg (by simp)]
    cases g2 : (unmetN l root).isSome with
    | true => rw [g2] at H2; rw [if_pos rfl]; exact wrong2_any H1 H2 z2
    | false =>
      rw [g2] at H2
      rw [if_neg (by simp)]
      cases g3 : (l.find? (lacksX X)).isSome with
      | true => rw [g3] at H3; rw [if_pos rfl]; exact wrong3_any H1 H2 H3 z3
      | false =>
        rw [g3] at H3
        rw [if_neg (by simp)]
        cases g4 : (l.find? (unmetX X l)).isSome with
        | true => rw [g4] at H4; rw [if_pos rfl]; exact wrong4_any H1 H2 H3 H4 z4
        | false =>
          rw [g4] at H4
          rw [if_neg (by simp)]
          cases g5 : (l.find? (idleX X root l)).isSome with
          | true => rw [g5] at H5; rw [if_pos rfl]; exact wrong5_any H1 H2 H3 H4 H5 z5
          | false =>
            rw [g5] at H5
            rw [if_neg (by simp)]
            exact wrong6_any H1 H2 H3 H4 H5
set_option maxHeartbeats 4000000 in
set_option maxRecDepth 100000 in
theorem specSol : SpecSol := by
  intro X root l pv A n c Al nl cl w ha
  have HW := hide (specWrong X root l pv A n c Al nl cl w ha)
  have e : solX X root l = ((wrongX X root l).1 == 0) := by
    unfold solX
    rw [Bool.eq_iff_iff]
    simp
  rw [e]
  clear e ha
  generalize (wrongX X root l).2 = s at *
  generalize (wrongX X root l).1 = k at *
  go_enter Tryz.func12, Tryz.ntmps12
  go_wp2_with (first
    | (go_at_call 21
       refine HW.out.mono ?_
       rintro e w1 ⟨rfl, hb1⟩))
  go_ret
  exact ⟨rfl, hb1⟩
end Go.Proofs.YtdmejcfnolhplaaGreatDoor.Fit
