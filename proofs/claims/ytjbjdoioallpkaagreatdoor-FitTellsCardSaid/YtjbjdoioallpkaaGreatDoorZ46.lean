/-
  Some texts of this claim, one behind the other: FitFirst. What each proves, and its condition, stands at its head.
-/
import Derived.Test.YtjbjdoioallpkaaGreatDoorZ45
import Derived.Test.YtjbjdoioallpkaaGreatDoorZ42
import Derived.Shelf.Abstract
/-
  The contract of the program's first, over any closure of one captured variable that tells of a pick; and of the three closures that it is called with. Condition: what the closure captured stands in a block of its own; what is known is looked at.
-/
namespace Go.Proofs.YtjbjdoioallpkaaGreatDoor.Fit
open Go Go.RowKit Go.Lib Go.Proofs.YtjbjdoioallpkaaGreatDoor.Span Go.Proofs.YtjbjdoioallpkaaGreatDoor.Need Go.Proofs.YtjbjdoioallpkaaGreatDoor.Mani Go.Proofs.YtjbjdoioallpkaaGreatDoor.Wire Go.Proofs.YtjbjdoioallpkaaGreatDoor.Depot Go.Proofs.YtjbjdoioallpkaaGreatDoor.Index Go.Proofs.YtjbjdoioallpkaaGreatDoor.Reach Go.Proofs.YtjbjdoioallpkaaGreatDoor.Pick
set_option linter.unusedVariables false
theorem find_drop {l : List Pk} {P : Pk → Bool} {i : Nat} {q : Pk} (h : l[i]? = some q) : (l.drop i).find? P = if P q = true then some q else (l.drop (i + 1)).find? P := by
  obtain ⟨hi, e⟩ := List.getElem?_eq_some_iff.1 h
  rw [List.drop_eq_getElem_cons hi, e, List.find?_cons]
  cases g : P q <;> simp
set_option maxHeartbeats 4000000 in
set_option maxRecDepth 100000 in
theorem first_any (P : Pk → Bool) (f : FuncId) (u : Value) (l : List Pk) (A : Option Addr) (n c : Nat) (w : World)
    (eg : ∀ args w, (callFunc f args).run Tryz.prog w = .ok (.enter f args) w) (h : PkOn w A n l) (hn : n ≤ 1000000)
    (hK : ∀ (q : Pk) (wx : World), q ∈ l → Below w.heap.size w wx → Calls Tryz.prog f #[.agg #[.string q.1, .int .i64 q.2], u] wx fun e w' => e = .returned (.bool (P q)) ∧ Below wx.heap.size wx w') :
    Calls Tryz.prog 65 #[.slice A n c, .func (.func f) #[] #[u]] w fun e w' => e = .returned (.tuple #[.string (nameO (l.find? P)), .bool (l.find? P).isSome]) ∧ Below w.heap.size w w' := by
  have Hlen := hide h.len
  have Hd := hide (fun (i : Nat) (q : Pk) => @find_drop l P i q)
  have Hend : Hid ((l.drop n).find? P = none) := hide (by rw [List.drop_of_length_le (by have := Hlen.out; omega)]; rfl)
  have HK := hide hK
  obtain ⟨r, hr⟩ : ∃ r, r = l.find? P := ⟨_, rfl⟩
  rw [← hr]
  have Hr := hide hr
  clear hr hK
  go_enter Tryz.func65, Tryz.ntmps65
  go_wp2
  go_loopw [10] (fun v wr => ∃ (i : Nat), i ≤ n ∧ v = .int .i64 (i : Int) ∧ Hid (r = (l.drop i).find? P) ∧ Below w.heap.size w wr) (fun v _ => n - (RowKit.intOf v).toNat)
  case atStart => exact ⟨0, by omega, rfl, Hr, Below.refl _ _⟩
  case round =>
    obtain ⟨i, hi, rfl, hf, hb⟩ := hrel
    have hbs := hb.size
    by_cases hlt : i < n
    · obtain ⟨ad, q, rfl, hbl, hx, c1, c2⟩ := PkIn.at_ (PkIn.below h hb) hlt
      have hd := hf.out.trans (Hd.out i q hx)
      have HQ := hide (fun wx hb => HK.out q wx (List.mem_of_getElem? hx) hb)
      obtain ⟨x, v⟩ := q
      simp only [] at c1 c2 HQ
      have hba := hb.alloc hbs (.cells #[.string x, .int .i64 v] 53)
      have hB := Blk.new wr 53 #[.string x, .int .i64 v]
      clear hx hf h Hend Hr HK
      cases g : P (x, v) with
      | true =>
        rw [g] at HQ
        rw [if_pos g] at hd
        have e : Hid (r = some (x, v)) := hide hd
        clear hd g
        go_wp2_with (first
          | (go_at_fn f
             refine (HQ.out _ hba).mono ?_
             rintro e w1 ⟨rfl, hb1⟩
             have hbw := hba.trans (hb1.mono hba.size)
             have hB1 := hB.below hb1 hB.lt
             have k1 := hB1.cell 0))
        go_ret2
        exact ⟨by rw [e.out]; rfl, hbw⟩
      | false =>
        rw [g] at HQ
        rw [if_neg (by rw [g]; simp)] at hd
        have e : Hid (r = (l.drop (i + 1)).find? P) := hide hd
        clear hd g
        go_wp2_with (first
          | (go_at_fn f
             refine (HQ.out _ hba).mono ?_
             rintro e w1 ⟨rfl, hb1⟩
             have hbw := hba.trans (hb1.mono hba.size)))
        go_roundw
        case rel => exact ⟨i + 1, by omega, by go_num, e, hbw⟩
        case measure => simp [RowKit.intOf]; omega
    · have hi2 : i = n := by omega
      have e : r = none := by rw [hf.out, hi2]; exact Hend.out
      subst e
      clear hf Hr Hend h
      go_wp2
      go_ret2
      exact ⟨rfl, hb⟩
set_option maxHeartbeats 4000000 in
set_option maxRecDepth 100000 in
theorem unreleased1_any (X : List Kn) (nm : ByteArray) (v : Int) (o : Option Addr) (A Al : Option Addr) (n c nl cl g : Nat) (w : World) (hX : TellsX w (.pointer o) X) (hf : FineX X) (hnm : nm.size ≤ 1000000000)
    (hB : Blk w g 61 #[.pointer o, .slice A n c, .slice Al nl cl]) :
    Calls Tryz.prog 66 #[.agg #[.string nm, .int .i64 v], .pointer (some ⟨g, 0, none⟩)] w fun e w' => e = .returned (.bool (lacksX X (nm, v))) ∧ Below w.heap.size w w' := by
  have hba := alloc_b w (.cells #[.string nm, .int .i64 v] 53)
  have HR := hide (fun (wx : World) (hb : Below w.heap.size w wx) => release_any X nm v (.pointer o) wx (hX.on hb) hf hnm)
  unfold GetsI at HR
  have k0 := (hB.alloc (.cells #[.string nm, .int .i64 v] 53)).cell 0
  have e : lacksX X (nm, v) = !(relX X nm v).isSome := rfl
  rw [e]
  clear e hX hf hnm hB
  generalize relX X nm v = r at *
  go_enter Tryz.func66, Tryz.ntmps66
  go_wp2_with (first
    | (go_at_call 30
       refine (HR.out _ hba).mono ?_
       rintro e w1 ⟨A3, n3, c3, rfl, hN3, hb3⟩
       have hbw := hba.trans (hb3.mono hba.size)))
  go_ret
  exact ⟨by cases r <;> rfl, hbw.alloc hbw.size _⟩
theorem unmetX_is (X : List Kn) (l : List Pk) (p : Pk) : unmetX X l p = (unmetN l (needsX X p.1 p.2)).isSome := by
  unfold unmetX unmetN
  rw [Bool.eq_iff_iff, List.find?_isSome, List.any_eq_true]
set_option maxHeartbeats 4000000 in
set_option maxRecDepth 100000 in
theorem releaseUnmet1_any (X : List Kn) (l : List Pk) (nm : ByteArray) (v : Int) (o : Option Addr) (A Al : Option Addr) (n c nl cl g : Nat) (w : World) (hX : TellsX w (.pointer o) X) (hf : FineX X) (hS : SetX X) (hnm : nm.size ≤ 1000000000)
    (hl : PkOn w Al nl l) (hr : RisesP l) (hnl : nl ≤ 1000000)
    (hB : Blk w g 61 #[.pointer o, .slice A n c, .slice Al nl cl]) :
    Calls Tryz.prog 67 #[.agg #[.string nm, .int .i64 v], .pointer (some ⟨g, 0, none⟩)] w fun e w' => e = .returned (.bool (unmetX X l (nm, v))) ∧ Below w.heap.size w w' := by
  rw [unmetX_is]
  have hba := alloc_b w (.cells #[.string nm, .int .i64 v] 53)
  have HR := hide (fun (wx : World) (hb : Below w.heap.size w wx) => release_any X nm v (.pointer o) wx (hX.on hb) hf hnm)
  unfold GetsI at HR
  have eN : ((relX X nm v).getD (0, [])).2 = needsX X nm v := rfl
  rw [eN] at HR
  have hns := needs_sets hS nm v
  have HU := hide (fun (Ax : Option Addr) (nx cx : Nat) (wx : World) (hb : Below w.heap.size w wx) (hT : NdOn wx Ax nx (needsX X nm v)) => unmet_any (needsX X nm v) l Ax Al nx cx nl cl wx hT (hl.on hb) hr (by rw [← hT.len]; omega) hnl (fun q hq => by have := (hns.2 q hq).2; omega))
  have hB0 := hB.alloc (.cells #[.string nm, .int .i64 v] 53)
  have k0 := hB0.cell 0
  clear eN hX hf hnm hB hl hr hns
  show Calls _ _ _ _ fun e w' => e = .returned (.bool (unmetN l (needsX X nm v)).isSome) ∧ Below w.heap.size w w'
  generalize needsX X nm v = N at *
  go_enter Tryz.func67, Tryz.ntmps67
  go_wp2_with (first
    | (go_at_call 30
       refine (HR.out _ hba).mono ?_
       rintro e w1 ⟨A3, n3, c3, rfl, hN3, hb3⟩
       have hbw := hba.trans (hb3.mono hba.size)
       have hT4 := hN3.on.on (alloc_b w1 (.cells #[.int .i64 ((relX X nm v).getD (0, [])).1, .slice A3 n3 c3] 77))
       have hbw4 := hbw.alloc hbw.size (.cells #[.int .i64 ((relX X nm v).getD (0, [])).1, .slice A3 n3 c3] 77)
       have hB4 := (hB0.below hb3 hB0.lt).alloc (.cells #[.int .i64 ((relX X nm v).getD (0, [])).1, .slice A3 n3 c3] 77)
       have k4 := hB4.cell 2)
    | (go_at_call 64
       refine (HU.out _ _ _ _ hbw4 hT4).mono ?_
       rintro e w5 ⟨rfl, hb5⟩
       have hbw5 := hbw4.trans (hb5.mono hbw4.size)))
  go_ret
  exact ⟨rfl, hbw5⟩
set_option maxHeartbeats 4000000 in
set_option maxRecDepth 100000 in
theorem unneeded1_any (L : List ByteArray) (nm : ByteArray) (v : Int) (A : Option Addr) (n c g : Nat) (w : World) (hT : TxOn w A n L) (hr : RisesN L) (hn : n ≤ 1000000) (hB : Blk w g 40 #[.slice A n c]) :
    Calls Tryz.prog 68 #[.agg #[.string nm, .int .i64 v], .pointer (some ⟨g, 0, none⟩)] w fun e w' => e = .returned (.bool (!memB nm L)) ∧ Below w.heap.size w w' := by
  have hba := alloc_b w (.cells #[.string nm, .int .i64 v] 53)
  have HS := hide (bsearch_any L nm A n c (w.alloc (.cells #[.string nm, .int .i64 v] 53)) (hT.on hba) hr hn)
  have k0 := (hB.alloc (.cells #[.string nm, .int .i64 v] 53)).cell 0
  clear hT hr hn hB
  generalize memB nm L = b at *
  go_enter Tryz.func68, Tryz.ntmps68
  go_wp2_with (first
    | (go_at_call 69
       refine HS.out.mono ?_
       rintro e w1 ⟨⟨i, rfl⟩, hb1⟩
       have hbw := hba.trans (hb1.mono hba.size)))
  go_ret
  exact ⟨rfl, hbw⟩
end Go.Proofs.YtjbjdoioallpkaaGreatDoor.Fit
