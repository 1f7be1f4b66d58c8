/-
  Some texts of this claim, one behind the other: FactHoldsW. What each proves, and its condition, stands at its head.
-/
import Derived.Test.YtpicnbidbddggaaGreatDoorX50
import Derived.Test.YtpicnbidbddggaaGreatDoorX45
import Derived.Test.YtpicnbidbddggaaGreatDoorX41
import Derived.Test.YtpicnbidbddggaaGreatDoorX31
import Derived.Test.YtpicnbidbddggaaGreatDoorX33
import Derived.Test.YtpicnbidbddggaaGreatDoorX11
import Derived.Test.YtpicnbidbddggaaGreatDoorX28
import Derived.Test.YtpicnbidbddggaaGreatDoorX23
import Derived.Test.YtpicnbidbddggaaGreatDoorX29
import Derived.Test.YtpicnbidbddggaaGreatDoorX22
import Derived.Test.YtpicnbidbddggaaGreatDoorX21
/-
  The walk of FactHolds, if the program's functions of facts, and Wrong, tell what they have to. Condition: those premises; the program's own table holds what its text lays in it.
-/
namespace Go.Proofs.YtpicnbidbddggaaGreatDoor.Fact
open Go Go.RowKit Go.Lib Go.Sort Go.Proofs.YtpicnbidbddggaaGreatDoor.Span Go.Proofs.YtpicnbidbddggaaGreatDoor.Need Go.Proofs.YtpicnbidbddggaaGreatDoor.Mani Go.Proofs.YtpicnbidbddggaaGreatDoor.Wire Go.Proofs.YtpicnbidbddggaaGreatDoor.Depot Go.Proofs.YtpicnbidbddggaaGreatDoor.Index Go.Proofs.YtpicnbidbddggaaGreatDoor.Reach Go.Proofs.YtpicnbidbddggaaGreatDoor.Pick Go.Proofs.YtpicnbidbddggaaGreatDoor.Clash Go.Proofs.YtpicnbidbddggaaGreatDoor.Fit
open Go.Proofs.YtpicnbidbddggaaGreatDoor.Ver (Units)
set_option linter.unusedVariables false
theorem namesH9 {l : List Nd} (h : Fine l) : Names9 l := fun q hq => by have := h.2 q hq; omega
def skipH (l : List En) (root : List Nd) (p : List Pk) : Bool := largeE l || (large root || (!okS root || (largeP p || !okP p)))
theorem held_root {X : List Kn} {root : List Nd} {p : List Pk} (hr : okS root = true) (hs : solX X root p = true) : heldB p ((rootP root).map Prod.fst) = false := by
  unfold heldB
  rw [root_fst, List.any_eq_false]
  intro c hc
  rw [sol_root hr hs c hc]
  simp
theorem held_all {X : List Kn} {root : List Nd} {p : List Pk} (hX : OkX X) (hs : solX X root p = true) (a : ByteArray) : heldB p ((allP X a).map Prod.fst) = false := by
  unfold heldB
  rw [all_fst, List.any_eq_false]
  intro c hc
  rw [sol_all hX.sets hs a c hc]
  simp
noncomputable def badP (X : List Kn) (p : List Pk) (q : Pk) : Bool := !(atX X q.1).isSome || heldB p ((allP X q.1).map Prod.fst)
theorem none_bad {X : List Kn} {root : List Nd} {p : List Pk} (hX : OkX X) (hr : okS root = true) (hp : okP p = true) (h0 : heldB p ((rootP root).map Prod.fst) = false) (h1 : p.any (badP X p) = false) : (wrongX X root p).1 = 0 ∨ (wrongX X root p).1 = 5 := by
  refine none_holds hX.sets hr hp (fun q hq => (hX.fine q hq).1) (fun c hc => ?_) (fun q hq => ?_)
  · unfold heldB at h0
    rw [root_fst, List.any_eq_false] at h0
    simpa using h0 c hc
  · rw [List.any_eq_false] at h1
    have := h1 q hq
    unfold badP heldB at this
    rw [all_fst] at this
    simp only [Bool.or_eq_true, Bool.not_eq_true', not_or, Bool.not_eq_false, Bool.not_eq_true, List.any_eq_false] at this
    exact ⟨this.1, fun c hc => by simpa using this.2 c hc⟩
theorem any_take {α : Type} {f : α → Bool} {l : List α} {t : α} {i : Nat} (h : l[i]? = some t) : (l.take (i + 1)).any f = ((l.take i).any f || f t) := by
  rw [List.take_add_one, h, List.any_append]
  simp
set_option maxHeartbeats 8000000 in
set_option maxRecDepth 100000 in
theorem fholds_skip (SA : SpecAskedF) (SR : SpecReleasedF) (l : List En) (root : List Nd) (p : List Pk) (A0 A1 A2 : Option Addr) (n0 c0 n1 c1 n2 c2 : Nat) (w : World) (h : EnOn w A0 n0 l) (h' : NdOn w A1 n1 root) (h'' : PkOn w A2 n2 p) (hn : n0 ≤ 9223372036854775807) (hn' : n1 ≤ 9223372036854775807) (hn'' : n2 ≤ 9223372036854775807) (hsk : skipH l root p = true) :
    Calls Tryz.prog 3 #[.slice A0 n0 c0, .slice A1 n1 c1, .slice A2 n2 c2] w fun e w' => e = .returned (.bool true) ∧ Below w.heap.size w w' := by
  have HW := hide (fun wx => awakeFa_any SA SR wx)
  have HL := hide (fun (wx : World) (hb : Below w.heap.size w wx) => largeE_any l A0 n0 c0 wx (h.on hb) (by omega))
  unfold Tells at HL
  have HR := hide (fun (wx : World) (hb : Below w.heap.size w wx) => large_any root A1 n1 c1 wx (h'.on hb) (by omega))
  have HP := hide (fun (wx : World) (hb : Below w.heap.size w wx) => largeP_any p A2 n2 c2 wx (h''.on hb) (by omega))
  have hb0 : Below w.heap.size w w := Below.refl _ _
  clear SA SR
  cases g1 : largeE l with
  | true =>
    rw [g1] at HL
    clear h h' h'' hn hn' hn'' hsk HR HP
    go_enter Tryz.func3, Tryz.ntmps3
    go_wp2_with (first
      | (go_at_call 9
         refine (HW.out _).mono ?_
         rintro e w9 ⟨rfl, hb9⟩
         have hbe := hb1.trans (hb9.mono hb1.size))
      | (go_at_call 4
         refine (HL.out _ hb0).mono ?_
         rintro e w1 ⟨rfl, hb1x⟩
         have hb1 := hb0.trans (hb1x.mono hb0.size)))
    go_ret
    exact ⟨rfl, hbe⟩

  | false =>
  rw [g1] at HL
  cases g2 : large root with
  | true =>
    rw [g2] at HR
    clear h h' h'' hn hn' hn'' hsk HP
    go_enter Tryz.func3, Tryz.ntmps3
    go_wp2_with (first
      | (go_at_call 9
         refine (HW.out _).mono ?_
         rintro e w9 ⟨rfl, hb9⟩
         have hbe := hb2.trans (hb9.mono hb2.size))
      | (go_at_call 5
         refine (HR.out _ hb1).mono ?_
         rintro e w2 ⟨rfl, hb2x⟩
         have hb2 := hb1.trans (hb2x.mono hb1.size))
      | (go_at_call 4
         refine (HL.out _ hb0).mono ?_
         rintro e w1 ⟨rfl, hb1x⟩
         have hb1 := hb0.trans (hb1x.mono hb0.size)))
    go_ret
    exact ⟨rfl, hbe⟩

  | false =>
  rw [g2] at HR
  have hfn := fine_of g2
  have hn40 : n1 ≤ 40 := by rw [← h'.len]; exact hfn.1
  have HK := hide (fun (wx : World) (hb : Below w.heap.size w wx) => refCheckN_any root A1 n1 c1 wx (h'.on hb) (namesH9 hfn) (by omega))
  cases g3 : okS root with
  | false =>
    rw [g3] at HK
    clear h h' h'' hn hn' hn'' hsk hfn hn40 HP
    go_enter Tryz.func3, Tryz.ntmps3
    go_wp2_with (first
      | (go_at_call 9
         refine (HW.out _).mono ?_
         rintro e w9 ⟨rfl, hb9⟩
         have hbe := hb3.trans (hb9.mono hb3.size))
      | (go_at_call 6
         refine (HK.out _ hb2).mono ?_
         rintro e w3 ⟨rfl, hb3x⟩
         have hb3 := hb2.trans (hb3x.mono hb2.size))
      | (go_at_call 5
         refine (HR.out _ hb1).mono ?_
         rintro e w2 ⟨rfl, hb2x⟩
         have hb2 := hb1.trans (hb2x.mono hb1.size))
      | (go_at_call 4
         refine (HL.out _ hb0).mono ?_
         rintro e w1 ⟨rfl, hb1x⟩
         have hb1 := hb0.trans (hb1x.mono hb0.size)))
    go_ret
    exact ⟨rfl, hbe⟩

  | true =>
  rw [g3] at HK
  cases g4 : largeP p with
  | true =>
    rw [g4] at HP
    clear h h' h'' hn hn' hn'' hsk hfn hn40
    go_enter Tryz.func3, Tryz.ntmps3
    go_wp2_with (first
      | (go_at_call 9
         refine (HW.out _).mono ?_
         rintro e w9 ⟨rfl, hb9⟩
         have hbe := hb3.trans (hb9.mono hb3.size))
      | (go_at_call 7
         refine (HP.out _ hb3).mono ?_
         rintro e w4 ⟨rfl, rfl⟩)
      | (go_at_call 6
         refine (HK.out _ hb2).mono ?_
         rintro e w3 ⟨rfl, hb3x⟩
         have hb3 := hb2.trans (hb3x.mono hb2.size))
      | (go_at_call 5
         refine (HR.out _ hb1).mono ?_
         rintro e w2 ⟨rfl, hb2x⟩
         have hb2 := hb1.trans (hb2x.mono hb1.size))
      | (go_at_call 4
         refine (HL.out _ hb0).mono ?_
         rintro e w1 ⟨rfl, hb1x⟩
         have hb1 := hb0.trans (hb1x.mono hb0.size)))
    go_ret
    exact ⟨rfl, hbe⟩

  | false =>
  rw [g4] at HP
  obtain ⟨hp60, hp200⟩ := largeP_no g4
  have hn2 : n2 ≤ 60 := by rw [← h''.len]; exact hp60
  have HC := hide (fun (wx : World) (hb : Below w.heap.size w wx) => refCheckP_any p A2 n2 c2 wx (h''.on hb) (fun q hq => by have := hp200 q hq; omega) (by omega))
  have g5 : okP p = false := by
    unfold skipH at hsk
    rw [g1, g2, g3, g4] at hsk
    simpa using hsk
  rw [g5] at HC
  clear h h' h'' hn hn' hn'' hsk hfn hn40 hp60 hp200 hn2
  go_enter Tryz.func3, Tryz.ntmps3
  go_wp2_with (first
    | (go_at_call 9
       refine (HW.out _).mono ?_
       rintro e w9 ⟨rfl, hb9⟩
       have hbe := hb5.trans (hb9.mono hb5.size))
    | (go_at_call 8
       refine (HC.out _ hb3).mono ?_
       rintro e w5 ⟨rfl, hb5x⟩
       have hb5 := hb3.trans (hb5x.mono hb3.size))
    | (go_at_call 7
       refine (HP.out _ hb3).mono ?_
       rintro e w4 ⟨rfl, rfl⟩)
    | (go_at_call 6
       refine (HK.out _ hb2).mono ?_
       rintro e w3 ⟨rfl, hb3x⟩
       have hb3 := hb2.trans (hb3x.mono hb2.size))
    | (go_at_call 5
       refine (HR.out _ hb1).mono ?_
       rintro e w2 ⟨rfl, hb2x⟩
       have hb2 := hb1.trans (hb2x.mono hb1.size))
    | (go_at_call 4
       refine (HL.out _ hb0).mono ?_
       rintro e w1 ⟨rfl, hb1x⟩
       have hb1 := hb0.trans (hb1x.mono hb0.size)))
  go_ret
  exact ⟨rfl, hbe⟩

set_option maxHeartbeats 16000000 in
set_option maxRecDepth 100000 in
theorem fholds_sol (SA : SpecAskedF) (SR : SpecReleasedF) (SRo : SpecRootF) (SAl : SpecAllF) (SW : SpecWrong) (l : List En) (root : List Nd) (p : List Pk) (A0 A1 A2 : Option Addr) (n0 c0 n1 c1 n2 c2 : Nat) (w : World) (h : EnOn w A0 n0 l) (h' : NdOn w A1 n1 root) (h'' : PkOn w A2 n2 p) (hn : n0 ≤ 9223372036854775807) (hn' : n1 ≤ 9223372036854775807) (hn'' : n2 ≤ 9223372036854775807) (hcap : n2 ≤ c2) (hT : Units w) (hsk : skipH l root p = false) (hsol : solX (putsX [] l) root p = true) :
    Calls Tryz.prog 3 #[.slice A0 n0 c0, .slice A1 n1 c1, .slice A2 n2 c2] w fun e w' => e = .returned (.bool true) ∧ Below w.heap.size w w' := by
  unfold skipH at hsk
  simp only [Bool.or_eq_false_iff, Bool.not_eq_false'] at hsk
  obtain ⟨g1, g2, g3, g4, g5⟩ := hsk
  have HW := hide (fun wx => awakeFa_any SA SR wx)
  have HL := hide (fun (wx : World) (hb : Below w.heap.size w wx) => largeE_any l A0 n0 c0 wx (h.on hb) (by omega))
  unfold Tells at HL
  have HR := hide (fun (wx : World) (hb : Below w.heap.size w wx) => large_any root A1 n1 c1 wx (h'.on hb) (by omega))
  have HP := hide (fun (wx : World) (hb : Below w.heap.size w wx) => largeP_any p A2 n2 c2 wx (h''.on hb) (by omega))
  have hb0 : Below w.heap.size w w := Below.refl _ _
  rw [g1] at HL
  rw [g2] at HR
  rw [g4] at HP
  have hfn := fine_of g2
  have hn40 : n1 ≤ 40 := by rw [← h'.len]; exact hfn.1
  have HK := hide (fun (wx : World) (hb : Below w.heap.size w wx) => refCheckN_any root A1 n1 c1 wx (h'.on hb) (namesH9 hfn) (by omega))
  rw [g3] at HK
  obtain ⟨hp60, hp200⟩ := largeP_no g4
  have hn2 : n2 ≤ 60 := by rw [← h''.len]; exact hp60
  have HC := hide (fun (wx : World) (hb : Below w.heap.size w wx) => refCheckP_any p A2 n2 c2 wx (h''.on hb) (fun q hq => by have := hp200 q hq; omega) (by omega))
  rw [g5] at HC
  obtain ⟨h30, hs⟩ := fineE_of g1
  obtain ⟨hr, hf, hsh, hXl⟩ := take_bounds l l.length h30 hs
  rw [List.take_of_length_le (Nat.le_refl _)] at hr hf hsh hXl
  have hX : OkX (putsX [] l) := okX_puts hf (by omega)
  have hlen := h.len
  have hr9 : ∀ q ∈ root, q.1.size ≤ 100 := fun q hq => (hfn.2 q hq).1
  have HIO := hide (fun (wx : World) (hb : Below w.heap.size w wx) => indexOf_any l A0 n0 c0 wx (h.on hb) (by omega) fun e he => by have := hs e he; omega)
  generalize putsX [] l = X at *
  have HX0 := hide hX
  have hnames : (namesX X).length ≤ 30 := by unfold namesX; rw [List.length_map]; exact hXl
  have hnsz : ∀ z ∈ namesX X, z.size ≤ 1000000000 := fun z hz => by
    unfold namesX at hz
    obtain ⟨q, hq, rfl⟩ := List.mem_map.1 hz
    exact hsh q hq
  have HWr := hide (fun (g : Nat) (wx : World) (hb : Below w.heap.size w wx) (hT0 : TellsX wx (.pointer (some ⟨g, 0, none⟩)) X) => SW X root p (.pointer (some ⟨g, 0, none⟩)) A1 n1 c1 A2 n2 c2 wx
    ⟨⟨⟨_, rfl⟩, hT0⟩, HX0.out.fine, HX0.out.sets, HX0.out.few, h'.on hb, hn40, g3, hr9, h''.on hb, hcap, hn2, hp200, hT.below hb⟩)
  have HRo := hide (fun (wx : World) (hb : Below w.heap.size w wx) => SRo root A1 n1 c1 wx (h'.on hb) hn40 g3)
  have HAl := hide (fun (g : Nat) (nm : ByteArray) (wx : World) (hT0 : TellsX wx (.pointer (some ⟨g, 0, none⟩)) X) (hz : nm.size ≤ 1000000000) => SAl X nm (.pointer (some ⟨g, 0, none⟩)) wx ⟨⟨_, rfl⟩, hT0, HX0.out⟩ hz)
  unfold FactsC at HRo HAl
  have HH := hide (fun (L : List (List Term.Tm)) (A : Option Addr) (n c : Nat) (wx : World) (hb : Below w.heap.size w wx) (hF : FcOn wx A n L) (hL : ∀ c ∈ L, FinC c) (hl : L.length ≤ 2000) => held_any L p A A2 n c n2 c2 wx hF (h''.on hb) hL (by have := FcIn.len hF; omega) (by omega))
  have HPk := hide (fun (wx : World) (hb : Below w.heap.size w wx) => h''.on hb)
  have FRo := hide (fin_root g3)
  have FAl := hide (fun nm => fin_all HX0.out nm)
  have LRo : Hid (((rootP root).map Prod.fst).length ≤ 2000) := hide (by rw [List.length_map, root_len]; have := h'.len; omega)
  have LAl : Hid (∀ nm, ((allP X nm).map Prod.fst).length ≤ 2000) := hide (fun nm => by rw [List.length_map]; have := all_len HX0.out nm; omega)
  have hris := hr
  have Hp200 := hide hp200
  clear h hs hlen h30 h' hn hn' hn'' hfn hr9 hf SA SR SW SRo SAl g1 g2 g4 hp60 hT hcap hX
  have hd0 : heldB p ((rootP root).map Prod.fst) = false := held_root g3 hsol
  have hda : ∀ a, heldB p ((allP X a).map Prod.fst) = false := fun a => held_all HX0.out hsol a
  have hw0 : (wrongX X root p).1 = 0 := by unfold solX at hsol; exact of_decide_eq_true hsol
  rw [hw0] at HWr
  generalize (wrongX X root p).2 = wn at *
  clear hsol hw0 g3 g5
  go_enter Tryz.func3, Tryz.ntmps3
  go_upto_region 3 with (first
    | (go_at_call 8
       refine (HC.out _ hb3).mono ?_
       rintro e w5 ⟨rfl, hb5x⟩
       have hb5 := hb3.trans (hb5x.mono hb3.size))
    | (go_at_call 7
       refine (HP.out _ hb3).mono ?_
       rintro e w4 ⟨rfl, rfl⟩)
    | (go_at_call 6
       refine (HK.out _ hb2).mono ?_
       rintro e w3 ⟨rfl, hb3x⟩
       have hb3 := hb2.trans (hb3x.mono hb2.size))
    | (go_at_call 5
       refine (HR.out _ hb1).mono ?_
       rintro e w2 ⟨rfl, hb2x⟩
       have hb2 := hb1.trans (hb2x.mono hb1.size))
    | (go_at_call 4
       refine (HL.out _ hb0).mono ?_
       rintro e w1 ⟨rfl, hb1x⟩
       have hb1 := hb0.trans (hb1x.mono hb0.size)))
  clear HL HR HK HP HC hb1x hb2x hb3x hb5x hb1 hb2 hb0 hb3
  go_upto_region 4 with (first
    | (go_at_call 10
       refine (HIO.out _ hb5).mono ?_
       rintro e V ⟨g, rfl, hI, hbVx⟩
       have hbV := hb5.trans (hbVx.mono hb5.size)))
  have HT0 := hide (tells_idx hI HX0.out.fine)
  have hVs := hbV.size
  obtain ⟨hgB, mo, hIdx, hmo⟩ := hI
  have HNm := hide (fun (wx : World) (hx : Below V.heap.size V wx) => names_any g mo X wx (hIdx.below hx) hris hsh (by omega))
  unfold MakesT at HNm
  have HWr2 := hide (fun (wx : World) (hx : Below V.heap.size V wx) => HWr.out g wx (hbV.trans (hx.mono hVs)) (HT0.out.on hx))
  have HRo2 := hide (fun (wx : World) (hx : Below V.heap.size V wx) => HRo.out wx (hbV.trans (hx.mono hVs)))
  have HAl2 := hide (fun (nm : ByteArray) (wx : World) (hx : Below V.heap.size V wx) (hz : nm.size ≤ 1000000000) => HAl.out g nm wx (HT0.out.on hx) hz)
  have HH2 := hide (fun (L : List (List Term.Tm)) (A : Option Addr) (n c : Nat) (wx : World) (hx : Below V.heap.size V wx) (hF : FcOn wx A n L) (hL : ∀ c ∈ L, FinC c) (hl : L.length ≤ 2000) => HH.out L A n c wx (hbV.trans (hx.mono hVs)) hF hL hl)
  have HHas := hide (fun (nm : ByteArray) (wx : World) (hx : Below V.heap.size V wx) (hz : nm.size ≤ 1000000000) => (HT0.out nm wx hx hz).2)
  have HPk2 := hide (fun (wx : World) (hx : Below V.heap.size V wx) => HPk.out wx (hbV.trans (hx.mono hVs)))
  have hv0 : Below V.heap.size V V := Below.refl _ _
  have Hnames := hide hnames
  have Hnsz := hide hnsz
  clear HIO HWr HRo HAl HH HT0 HPk hIdx hmo hgB hbVx hb5 hris hsh hnames hnsz hXl
  go_upto_region 5 with (first
    | (go_at_call 11
       refine (HWr2.out _ hv0).mono ?_
       rintro e w6 ⟨rfl, hv6x⟩
       have hv6 := hv0.trans (hv6x.mono hv0.size)))
  go_upto_region 6 with (first
    | (go_at_call 12
       refine (HRo2.out _ hv6).mono ?_
       rintro e w7 ⟨A7, n7, c7, B7, m7, d7, rfl, h7, s7, hv7x⟩
       have hv7 := hv6.trans (hv7x.mono hv6.size)))
  have HH7 := hide (HH2.out _ A7 n7 c7 w7 hv7 h7 FRo.out LRo.out)
  rw [hd0] at HH7
  go_upto_region 7 with (first
    | (go_at_call 13
       refine HH7.out.mono ?_
       rintro e w8 ⟨rfl, hv8x⟩
       have hv8 := hv7.trans (hv8x.mono hv7.size)))
  go_upto_region 8 with (first
    | (go_at_call 14
       refine (HNm.out _ hv8).mono ?_
       rintro e w9 ⟨A9, n9, c9, rfl, h9, hv9x⟩
       have hv9 := hv8.trans (hv9x.mono hv8.size)))
  have hn9 : n9 ≤ 30 := by have := h9.len; have := Hnames.out; omega
  clear HNm HWr2 HRo2 HH7 h7 s7 hv6 hv7 hv8 hv6x hv7x hv8x hv9x FRo LRo
  go_wp2
  go_loopw [14] (fun v wr => ∃ i : Nat, i ≤ n9 ∧ v = .int .i64 (i : Int) ∧ Below w9.heap.size w9 wr) (fun v _ => n9 - (RowKit.intOf v).toNat)
  case atStart => exact ⟨0, by omega, rfl, Below.refl _ _⟩
  case round =>
    obtain ⟨i, hi, rfl, hb⟩ := hrel
    have hbs := hb.size
    have hv : Below V.heap.size V wr := hv9.trans (hb.mono hv9.size)
    have hvs := hv.size
    by_cases hlt : i < n9
    · obtain ⟨ad, z, rfl, hbl, hz, p1⟩ := tcs_at (h9.on hb) hlt
      have hzs := Hnsz.out z (List.mem_of_getElem? hz)
      have HA := hide (HAl2.out z wr hv hzs)
      have hi1 : (0 : Int) ≤ (i : Int) := by omega
      have hi2 : (i : Int) < (n9 : Int) := by omega
      have HHz := hide (fun (A : Option Addr) (n c : Nat) (wx : World) (hx : Below V.heap.size V wx) (hF : FcOn wx A n ((allP X z).map Prod.fst)) => HH2.out _ A n c wx hx hF (FAl.out z) (LAl.out z))
      rw [hda z] at HHz
      generalize (allP X z).map Prod.fst = Lf at *
      generalize (allP X z).map Prod.snd = Ls at *
      clear hz hzs HAl2 HH2 h9 FAl LAl Hnsz Hnames hda HHas HPk2
      go_wp2_with (first
        | (go_at_call 15
           refine HA.out.mono ?_
           rintro e w11 ⟨A11, n11, c11, B11, m11, d11, rfl, h11, s11, hv11x⟩
           have hv11 := hv.trans (hv11x.mono hvs)
           have hb11 := hb.trans (hv11x.mono hbs))
        | (go_at_call 13
           refine (HHz.out _ _ _ _ hv11 h11).mono ?_
           rintro e w12 ⟨rfl, hv12x⟩
           have hb12 := hb11.trans (hv12x.mono hb11.size)))
      go_roundw
      case rel => exact ⟨i + 1, by omega, by go_num, hb12⟩
      case measure => simp [RowKit.intOf]; omega
    · clear HAl2 HH2 h9 FAl LAl Hnsz Hnames hda HHas HPk2
      go_wp2_with (first
        | (go_at_call 9
           refine (HW.out _).mono ?_
           rintro e w22 ⟨rfl, hb22⟩))
      go_ret
      have hbw := hbV.trans (hv.mono hVs)
      exact ⟨rfl, hbw.trans (hb22.mono hbw.size)⟩
set_option maxHeartbeats 16000000 in
set_option maxRecDepth 100000 in
theorem fholds_not (SA : SpecAskedF) (SR : SpecReleasedF) (SRo : SpecRootF) (SAl : SpecAllF) (SW : SpecWrong) (l : List En) (root : List Nd) (p : List Pk) (A0 A1 A2 : Option Addr) (n0 c0 n1 c1 n2 c2 : Nat) (w : World) (h : EnOn w A0 n0 l) (h' : NdOn w A1 n1 root) (h'' : PkOn w A2 n2 p) (hn : n0 ≤ 9223372036854775807) (hn' : n1 ≤ 9223372036854775807) (hn'' : n2 ≤ 9223372036854775807) (hcap : n2 ≤ c2) (hT : Units w) (hsk : skipH l root p = false) (hsol : solX (putsX [] l) root p = false) :
    Calls Tryz.prog 3 #[.slice A0 n0 c0, .slice A1 n1 c1, .slice A2 n2 c2] w fun e w' => e = .returned (.bool true) ∧ Below w.heap.size w w' := by
  unfold skipH at hsk
  simp only [Bool.or_eq_false_iff, Bool.not_eq_false'] at hsk
  obtain ⟨g1, g2, g3, g4, g5⟩ := hsk
  have HW := hide (fun wx => awakeFa_any SA SR wx)
  have HL := hide (fun (wx : World) (hb : Below w.heap.size w wx) => largeE_any l A0 n0 c0 wx (h.on hb) (by omega))
  unfold Tells at HL
  have HR := hide (fun (wx : World) (hb : Below w.heap.size w wx) => large_any root A1 n1 c1 wx (h'.on hb) (by omega))
  have HP := hide (fun (wx : World) (hb : Below w.heap.size w wx) => largeP_any p A2 n2 c2 wx (h''.on hb) (by omega))
  have hb0 : Below w.heap.size w w := Below.refl _ _
  rw [g1] at HL
  rw [g2] at HR
  rw [g4] at HP
  have hfn := fine_of g2
  have hn40 : n1 ≤ 40 := by rw [← h'.len]; exact hfn.1
  have HK := hide (fun (wx : World) (hb : Below w.heap.size w wx) => refCheckN_any root A1 n1 c1 wx (h'.on hb) (namesH9 hfn) (by omega))
  rw [g3] at HK
  obtain ⟨hp60, hp200⟩ := largeP_no g4
  have hn2 : n2 ≤ 60 := by rw [← h''.len]; exact hp60
  have HC := hide (fun (wx : World) (hb : Below w.heap.size w wx) => refCheckP_any p A2 n2 c2 wx (h''.on hb) (fun q hq => by have := hp200 q hq; omega) (by omega))
  rw [g5] at HC
  obtain ⟨h30, hs⟩ := fineE_of g1
  obtain ⟨hr, hf, hsh, hXl⟩ := take_bounds l l.length h30 hs
  rw [List.take_of_length_le (Nat.le_refl _)] at hr hf hsh hXl
  have hX : OkX (putsX [] l) := okX_puts hf (by omega)
  have hlen := h.len
  have hr9 : ∀ q ∈ root, q.1.size ≤ 100 := fun q hq => (hfn.2 q hq).1
  have HIO := hide (fun (wx : World) (hb : Below w.heap.size w wx) => indexOf_any l A0 n0 c0 wx (h.on hb) (by omega) fun e he => by have := hs e he; omega)
  generalize putsX [] l = X at *
  have HX0 := hide hX
  have hnames : (namesX X).length ≤ 30 := by unfold namesX; rw [List.length_map]; exact hXl
  have hnsz : ∀ z ∈ namesX X, z.size ≤ 1000000000 := fun z hz => by
    unfold namesX at hz
    obtain ⟨q, hq, rfl⟩ := List.mem_map.1 hz
    exact hsh q hq
  have HWr := hide (fun (g : Nat) (wx : World) (hb : Below w.heap.size w wx) (hT0 : TellsX wx (.pointer (some ⟨g, 0, none⟩)) X) => SW X root p (.pointer (some ⟨g, 0, none⟩)) A1 n1 c1 A2 n2 c2 wx
    ⟨⟨⟨_, rfl⟩, hT0⟩, HX0.out.fine, HX0.out.sets, HX0.out.few, h'.on hb, hn40, g3, hr9, h''.on hb, hcap, hn2, hp200, hT.below hb⟩)
  have HRo := hide (fun (wx : World) (hb : Below w.heap.size w wx) => SRo root A1 n1 c1 wx (h'.on hb) hn40 g3)
  have HAl := hide (fun (g : Nat) (nm : ByteArray) (wx : World) (hT0 : TellsX wx (.pointer (some ⟨g, 0, none⟩)) X) (hz : nm.size ≤ 1000000000) => SAl X nm (.pointer (some ⟨g, 0, none⟩)) wx ⟨⟨_, rfl⟩, hT0, HX0.out⟩ hz)
  unfold FactsC at HRo HAl
  have HH := hide (fun (L : List (List Term.Tm)) (A : Option Addr) (n c : Nat) (wx : World) (hb : Below w.heap.size w wx) (hF : FcOn wx A n L) (hL : ∀ c ∈ L, FinC c) (hl : L.length ≤ 2000) => held_any L p A A2 n c n2 c2 wx hF (h''.on hb) hL (by have := FcIn.len hF; omega) (by omega))
  have HPk := hide (fun (wx : World) (hb : Below w.heap.size w wx) => h''.on hb)
  have FRo := hide (fin_root g3)
  have FAl := hide (fun nm => fin_all HX0.out nm)
  have LRo : Hid (((rootP root).map Prod.fst).length ≤ 2000) := hide (by rw [List.length_map, root_len]; have := h'.len; omega)
  have LAl : Hid (∀ nm, ((allP X nm).map Prod.fst).length ≤ 2000) := hide (fun nm => by rw [List.length_map]; have := all_len HX0.out nm; omega)
  have hris := hr
  have Hp200 := hide hp200
  clear h hs hlen h30 h' hn hn' hn'' hfn hr9 hf SA SR SW SRo SAl g1 g2 g4 hp60 hT hcap hX
  obtain ⟨s0, hd0⟩ : ∃ s0, heldB p ((rootP root).map Prod.fst) = s0 := ⟨_, rfl⟩
  have hw0 : (wrongX X root p).1 ≠ 0 := by unfold solX at hsol; exact of_decide_eq_false hsol
  have Hend : Hid ((s0 || p.any (badP X p)) = false → (wrongX X root p).1 = 5) := hide (fun h => by
    rw [Bool.or_eq_false_iff] at h
    rcases none_bad HX0.out g3 g5 (hd0.trans h.1) h.2 with h2 | h2
    · exact absurd h2 hw0
    · exact h2)
  generalize (wrongX X root p).2 = wn at *
  generalize (wrongX X root p).1 = wr1 at *
  have hw1 : (wr1 == 0) = false := by rw [beq_eq_false_iff_ne]; exact hw0
  clear hsol hw0 g3 g5
  go_enter Tryz.func3, Tryz.ntmps3
  go_upto_region 3 with (first
    | (go_at_call 8
       refine (HC.out _ hb3).mono ?_
       rintro e w5 ⟨rfl, hb5x⟩
       have hb5 := hb3.trans (hb5x.mono hb3.size))
    | (go_at_call 7
       refine (HP.out _ hb3).mono ?_
       rintro e w4 ⟨rfl, rfl⟩)
    | (go_at_call 6
       refine (HK.out _ hb2).mono ?_
       rintro e w3 ⟨rfl, hb3x⟩
       have hb3 := hb2.trans (hb3x.mono hb2.size))
    | (go_at_call 5
       refine (HR.out _ hb1).mono ?_
       rintro e w2 ⟨rfl, hb2x⟩
       have hb2 := hb1.trans (hb2x.mono hb1.size))
    | (go_at_call 4
       refine (HL.out _ hb0).mono ?_
       rintro e w1 ⟨rfl, hb1x⟩
       have hb1 := hb0.trans (hb1x.mono hb0.size)))
  clear HL HR HK HP HC hb1x hb2x hb3x hb5x hb1 hb2 hb0 hb3
  go_upto_region 4 with (first
    | (go_at_call 10
       refine (HIO.out _ hb5).mono ?_
       rintro e V ⟨g, rfl, hI, hbVx⟩
       have hbV := hb5.trans (hbVx.mono hb5.size)))
  have HT0 := hide (tells_idx hI HX0.out.fine)
  have hVs := hbV.size
  obtain ⟨hgB, mo, hIdx, hmo⟩ := hI
  have HNm := hide (fun (wx : World) (hx : Below V.heap.size V wx) => names_any g mo X wx (hIdx.below hx) hris hsh (by omega))
  unfold MakesT at HNm
  have HWr2 := hide (fun (wx : World) (hx : Below V.heap.size V wx) => HWr.out g wx (hbV.trans (hx.mono hVs)) (HT0.out.on hx))
  have HRo2 := hide (fun (wx : World) (hx : Below V.heap.size V wx) => HRo.out wx (hbV.trans (hx.mono hVs)))
  have HAl2 := hide (fun (nm : ByteArray) (wx : World) (hx : Below V.heap.size V wx) (hz : nm.size ≤ 1000000000) => HAl.out g nm wx (HT0.out.on hx) hz)
  have HH2 := hide (fun (L : List (List Term.Tm)) (A : Option Addr) (n c : Nat) (wx : World) (hx : Below V.heap.size V wx) (hF : FcOn wx A n L) (hL : ∀ c ∈ L, FinC c) (hl : L.length ≤ 2000) => HH.out L A n c wx (hbV.trans (hx.mono hVs)) hF hL hl)
  have HHas := hide (fun (nm : ByteArray) (wx : World) (hx : Below V.heap.size V wx) (hz : nm.size ≤ 1000000000) => (HT0.out nm wx hx hz).2)
  have HPk2 := hide (fun (wx : World) (hx : Below V.heap.size V wx) => HPk.out wx (hbV.trans (hx.mono hVs)))
  have hv0 : Below V.heap.size V V := Below.refl _ _
  have Hnames := hide hnames
  have Hnsz := hide hnsz
  clear HIO HWr HRo HAl HH HT0 HPk hIdx hmo hgB hbVx hb5 hris hsh hnames hnsz hXl
  go_upto_region 5 with (first
    | (go_at_call 11
       refine (HWr2.out _ hv0).mono ?_
       rintro e w6 ⟨rfl, hv6x⟩
       have hv6 := hv0.trans (hv6x.mono hv0.size)))
  go_upto_region 6 with (first
    | (go_at_call 12
       refine (HRo2.out _ hv6).mono ?_
       rintro e w7 ⟨A7, n7, c7, B7, m7, d7, rfl, h7, s7, hv7x⟩
       have hv7 := hv6.trans (hv7x.mono hv6.size)))
  have HH7 := hide (HH2.out _ A7 n7 c7 w7 hv7 h7 FRo.out LRo.out)
  rw [hd0] at HH7
  go_upto_region 7 with (first
    | (go_at_call 13
       refine HH7.out.mono ?_
       rintro e w8 ⟨rfl, hv8x⟩
       have hv8 := hv7.trans (hv8x.mono hv7.size)))
  go_upto_region 8 with (first
    | (go_at_call 14
       refine (HNm.out _ hv8).mono ?_
       rintro e w9 ⟨A9, n9, c9, rfl, h9, hv9x⟩
       have hv9 := hv8.trans (hv9x.mono hv8.size)))
  have hn9 : n9 ≤ 30 := by have := h9.len; have := Hnames.out; omega
  clear HNm HWr2 HRo2 HH7 h7 s7 hv6 hv7 hv8 hv6x hv7x hv8x hv9x FRo LRo
  go_wp2
  go_loopw [14] (fun v wr => ∃ i : Nat, i ≤ n9 ∧ v = .int .i64 (i : Int) ∧ Below w9.heap.size w9 wr) (fun v _ => n9 - (RowKit.intOf v).toNat)
  case atStart => exact ⟨0, by omega, rfl, Below.refl _ _⟩
  case round =>
    obtain ⟨i, hi, rfl, hb⟩ := hrel
    have hbs := hb.size
    have hv : Below V.heap.size V wr := hv9.trans (hb.mono hv9.size)
    have hvs := hv.size
    by_cases hlt : i < n9
    · obtain ⟨ad, z, rfl, hbl, hz, p1⟩ := tcs_at (h9.on hb) hlt
      have hzs := Hnsz.out z (List.mem_of_getElem? hz)
      have HA := hide (HAl2.out z wr hv hzs)
      have hi1 : (0 : Int) ≤ (i : Int) := by omega
      have hi2 : (i : Int) < (n9 : Int) := by omega
      generalize (allP X z).map Prod.fst = Lf at *
      generalize (allP X z).map Prod.snd = Ls at *
      clear hz hzs HAl2 HH2 h9 FAl LAl Hnsz Hnames HHas HPk2
      go_wp2_with (first
        | (go_at_call 15
           refine HA.out.mono ?_
           rintro e w11 ⟨A11, n11, c11, B11, m11, d11, rfl, h11, s11, hv11x⟩
           have hv11 := hv.trans (hv11x.mono hvs)
           have hb11 := hb.trans (hv11x.mono hbs)))
      go_roundw
      case rel => exact ⟨i + 1, by omega, by go_num, hb11⟩
      case measure => simp [RowKit.intOf]; omega
    · obtain ⟨U, hU⟩ : ∃ U, U = wr := ⟨_, rfl⟩
      subst hU
      have hbU := hb
      have hvU := hv
      clear h9 Hnsz Hnames
      go_wp2
      go_loopw [12, 17] (fun u v wr => ∃ (k : Nat), k ≤ n2 ∧ u = .bool (s0 || (p.take k).any (badP X p)) ∧ v = .int .i64 (k : Int) ∧ Below V.heap.size V wr) (fun _ v _ => n2 - (RowKit.intOf v).toNat)
      case atStart => exact ⟨0, by omega, by simp, rfl, hvU⟩
      case round =>
        clear hb hv hbs hvs hbU hvU
        obtain ⟨k, hk, rfl, rfl, hv⟩ := hrel
        have hvs := hv.size
        by_cases hkt : k < n2
        · obtain ⟨ad, q, rfl, hbl, hq, p1, p2⟩ := PkIn.at_ (HPk2.out _ hv) hkt
          have hqs : q.1.size ≤ 1000000000 := by have := Hp200.out q (List.mem_of_getElem? hq); omega
          have hE := any_take (f := badP X p) hq
          have HA := hide (HAl2.out q.1 wr hv hqs)
          have HC1 : Hid (∀ wx, Below wr.heap.size wr wx → wx.cell? (ad.add (k * 2)) = some (.string q.1)) := hide (fun wx hbx => (hbx.cell (by rw [block_of_add]; exact hbl)).trans p1)
          have HHz := hide (fun (A : Option Addr) (n c : Nat) (wx : World) (hx : Below V.heap.size V wx) (hF : FcOn wx A n ((allP X q.1).map Prod.fst)) => HH2.out _ A n c wx hx hF (FAl.out q.1) (LAl.out q.1))
          have HHq := hide (fun (wx : World) (hx : Below V.heap.size V wx) => HHas.out q.1 wx hx hqs)
          have hB : badP X p q = (!(atX X q.1).isSome || heldB p ((allP X q.1).map Prod.fst)) := rfl
          rw [hB] at hE
          have hi1 : (0 : Int) ≤ (k : Int) := by omega
          have hi2 : (k : Int) < (n2 : Int) := by omega
          obtain ⟨qn, qv⟩ := q
          simp only [] at p1 p2 hE HA HC1 HHz HHq
          generalize heldB p ((allP X qn).map Prod.fst) = hb2 at *
          generalize (atX X qn).isSome = is at *
          generalize (allP X qn).map Prod.fst = Lf at *
          generalize (allP X qn).map Prod.snd = Ls at *
          have HE := hide (show (s0 || (p.take (k + 1)).any (badP X p)) = ((s0 || (p.take k).any (badP X p)) || (!is || hb2)) by rw [hE, Bool.or_assoc])
          clear hq hqs HAl2 HH2 FAl LAl hE hB HHas HPk2 Hp200
          generalize (s0 || (p.take k).any (badP X p)) = b at *
          cases b with
          | true =>
            have e := hide (show (s0 || (p.take (k + 1)).any (badP X p)) = true by rw [HE.out]; rfl)
            clear HE
            go_wp2_with (first
              | (go_at_call 15
                 refine HA.out.mono ?_
                 rintro e w11 ⟨A11, n11, c11, B11, m11, d11, rfl, h11, s11, hv11x⟩
                 have hv11 := hv.trans (hv11x.mono hvs)))
            go_roundw
            case rel => exact ⟨k + 1, by omega, by rw [e.out], by go_num, hv11⟩
            case measure => simp [RowKit.intOf]; omega
          | false =>
          cases is with
          | false =>
            have e := hide (show (s0 || (p.take (k + 1)).any (badP X p)) = true by rw [HE.out]; rfl)
            clear HE
            go_wp2_with (first
              | (go_at_call 15
                 refine HA.out.mono ?_
                 rintro e w11 ⟨A11, n11, c11, B11, m11, d11, rfl, h11, s11, hv11x⟩
                 have hv11 := hv.trans (hv11x.mono hvs)
                 have q1 := HC1.out _ hv11x)
              | (go_at_call 16
                 refine (HHq.out _ hv11).mono ?_
                 rintro e W0 ⟨rfl, rfl⟩))
            go_roundw
            case rel => exact ⟨k + 1, by omega, by rw [e.out], by go_num, hv11⟩
            case measure => simp [RowKit.intOf]; omega
          | true =>
            have e := hide (show (s0 || (p.take (k + 1)).any (badP X p)) = hb2 by rw [HE.out]; simp)
            clear HE
            go_wp2_with (first
              | (go_at_call 15
                 refine HA.out.mono ?_
                 rintro e w11 ⟨A11, n11, c11, B11, m11, d11, rfl, h11, s11, hv11x⟩
                 have hv11 := hv.trans (hv11x.mono hvs)
                 have q1 := HC1.out _ hv11x)
              | (go_at_call 16
                 refine (HHq.out _ hv11).mono ?_
                 rintro e W0 ⟨rfl, rfl⟩)
              | (go_at_call 13
                 refine (HHz.out _ _ _ _ hv11 h11).mono ?_
                 rintro e w12 ⟨rfl, hv12x⟩
                 have hv12 := hv11.trans (hv12x.mono hv11.size)))
            go_roundw
            case rel => exact ⟨k + 1, by omega, by rw [e.out], by go_num, hv12⟩
            case measure => simp [RowKit.intOf]; omega
        · have hpl : p.length ≤ k := by have := (HPk2.out _ hv).len; omega
          have hE := Hend.out
          rw [List.take_of_length_le hpl]
          clear HAl2 HH2 FAl LAl HHas HPk2 Hp200 Hend
          generalize (s0 || p.any (badP X p)) = b at *
          cases b with
          | true =>
            clear hE
            go_wp2_with (first
              | (go_at_call 9
                 refine (HW.out _).mono ?_
                 rintro e w22 ⟨rfl, hb22⟩))
            go_ret
            have hbw := hbV.trans (hv.mono hVs)
            exact ⟨rfl, hbw.trans (hb22.mono hbw.size)⟩
          | false =>
            obtain rfl := hE rfl
            clear hE
            go_wp2_with (first
              | (go_at_call 9
                 refine (HW.out _).mono ?_
                 rintro e w22 ⟨rfl, hb22⟩))
            go_ret
            have hbw := hbV.trans (hv.mono hVs)
            exact ⟨rfl, hbw.trans (hb22.mono hbw.size)⟩
theorem fholds_walk (SA : SpecAskedF) (SR : SpecReleasedF) (SRo : SpecRootF) (SAl : SpecAllF) (SW : SpecWrong) (l : List En) (root : List Nd) (p : List Pk) (A0 A1 A2 : Option Addr) (n0 c0 n1 c1 n2 c2 : Nat) (w : World) (h : EnOn w A0 n0 l) (h' : NdOn w A1 n1 root) (h'' : PkOn w A2 n2 p) (hn : n0 ≤ 9223372036854775807) (hn' : n1 ≤ 9223372036854775807) (hn'' : n2 ≤ 9223372036854775807) (hcap : n2 ≤ c2) (hT : Units w) :
    Calls Tryz.prog 3 #[.slice A0 n0 c0, .slice A1 n1 c1, .slice A2 n2 c2] w fun e w' => e = .returned (.bool true) ∧ Below w.heap.size w w' := by
  cases hsk : skipH l root p with
  | true => exact fholds_skip SA SR l root p A0 A1 A2 n0 c0 n1 c1 n2 c2 w h h' h'' hn hn' hn'' hsk
  | false =>
    cases hsol : solX (putsX [] l) root p with
    | true => exact fholds_sol SA SR SRo SAl SW l root p A0 A1 A2 n0 c0 n1 c1 n2 c2 w h h' h'' hn hn' hn'' hcap hT hsk hsol
    | false => exact fholds_not SA SR SRo SAl SW l root p A0 A1 A2 n0 c0 n1 c1 n2 c2 w h h' h'' hn hn' hn'' hcap hT hsk hsol
end Go.Proofs.YtpicnbidbddggaaGreatDoor.Fact
