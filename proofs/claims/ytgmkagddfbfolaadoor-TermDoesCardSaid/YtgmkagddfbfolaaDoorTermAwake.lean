/-
  The chapter's example of terms (awake): it holds. Condition: the tables hold what the texts lay in them.
-/
import Derived.Test.YtgmkagddfbfolaaDoorTermShow
import Derived.Test.YtgmkagddfbfolaaDoorTermMake
namespace Go.Proofs.YtgmkagddfbfolaaDoor.Term
open Go Go.RowKit Go.Lib Go.Proofs.YtgmkagddfbfolaaDoor.Span Go.Proofs.YtgmkagddfbfolaaDoor.Need Go.Proofs.YtgmkagddfbfolaaDoor.Grow
open Go.Proofs.YtgmkagddfbfolaaDoor.Label (runes fitL)
open Go.Proofs.YtgmkagddfbfolaaDoor.Rule (showL joinL partL tz tz_in)
open Go.Proofs.YtgmkagddfbfolaaDoor.Ver (Tabs txt pA pB pC)
set_option linter.unusedVariables false
theorem txt_small {p a b c : Nat} (ha : pA p = a) (hb : pB p = b) (hc : pC p = c) (h1 : a < 10) (h2 : b < 10) (h3 : c < 10) : txt p = [UInt8.ofNat (48 + a), 46, UInt8.ofNat (48 + b), 46, UInt8.ofNat (48 + c)] := by
  unfold txt
  rw [ha, hb, hc, decDigits_one h1, decDigits_one h2, decDigits_one h3]
  rfl
theorem z100 : tz 1000000 = [49, 46, 48, 46, 48] := (tz_in (by omega) (by omega)).trans (txt_small (a := 1) (b := 0) (c := 0) rfl rfl rfl (by omega) (by omega) (by omega))
theorem z101 : tz 1000001 = [49, 46, 48, 46, 49] := (tz_in (by omega) (by omega)).trans (txt_small (a := 1) (b := 0) (c := 1) rfl rfl rfl (by omega) (by omega) (by omega))
def exA : ByteArray := ⟨#[97]⟩
def exS : List S := [(1000000, 1000001)]
def exN : List S := [(0, 1000000), (1000001, 1000000000)]
theorem not_ex : notS exS = exN := by
  refine (is_nf (by decide) fun p _ _ => ?_).symm
  rw [Bool.eq_iff_iff]; simp [exS, exN, has, kept]; omega
theorem fit_ex : fitL (runes exA 0) = true := by
  have h := Ver.runes_ascii [97] (by decide) 0
  rw [show exA = str [97] from rfl, h]
  decide
theorem showS : showL exS = [61, 49, 46, 48, 46, 48] := by
  unfold showL
  rw [if_neg (by decide), if_neg (by decide), if_neg (by decide)]
  simp only [exS, joinL, partL]
  rw [if_pos (by decide), z100]
theorem showN : showL exN = [60, 49, 46, 48, 46, 48, 32, 124, 32, 62, 61, 49, 46, 48, 46, 49] := by
  unfold showL
  rw [if_neg (by decide), if_neg (by decide), if_neg (by decide)]
  simp only [exN, joinL, partL]
  rw [if_neg (by decide), if_pos (by decide), if_neg (by decide), if_neg (by decide), if_pos (by decide), z100, z101]
  rfl
theorem show_exS : showT ⟨exA, exS, true⟩ = ⟨#[97, 32, 61, 49, 46, 48, 46, 48, 32, 111, 114, 32, 97, 98, 115, 101, 110, 116]⟩ := by
  unfold showT statesT
  rw [ok_is, full_is, empty_is, fit_ex, if_pos (by decide), if_neg (by decide), if_neg (by decide), if_neg (by decide), if_pos rfl]
  show exA ++ wBlank ++ (str (showL exS) ++ wOr ++ wAbsent) = _
  rw [showS]
  rfl
theorem show_exN : showT ⟨exA, exN, false⟩ = ⟨#[97, 32, 60, 49, 46, 48, 46, 48, 32, 124, 32, 62, 61, 49, 46, 48, 46, 49]⟩ := by
  unfold showT statesT
  rw [ok_is, full_is, empty_is, fit_ex, if_pos (by decide), if_neg (by decide), if_neg (by decide), if_neg (by decide), if_neg (by decide)]
  show exA ++ wBlank ++ str (showL exN) = _
  rw [showN]
  rfl
set_option maxHeartbeats 4000000 in
set_option maxRecDepth 100000 in
theorem awakeT_any (w : World) (hT : Tabs w) : Calls Tryd.prog 6 #[] w fun e w' => e = .returned (.bool true) ∧ Below w.heap.size w w' := by
  have H1 : Hid (∀ wx A n c, SpOn wx A n exS → Below w.heap.size w wx → Calls Tryd.prog 11 #[.agg #[.string ⟨#[97]⟩, .slice A n c, .bool true]] wx fun e w' => e = .returned (.string ⟨#[97, 32, 61, 49, 46, 48, 46, 48, 32, 111, 114, 32, 97, 98, 115, 101, 110, 116]⟩) ∧ Below wx.heap.size wx w') := hide (fun wx A n c hx hb => by
    have := showT_any exA exS true A n c wx hx (by rw [hx.len]; decide) (by decide) (hT.below hb)
    rw [show_exS] at this
    exact this)
  have H2 : Hid (∀ wx A n c, SpOn wx A n exS → Calls Tryd.prog 17 #[.agg #[.string ⟨#[97]⟩, .slice A n c, .bool true]] wx fun e w' => ∃ A n c, e = .returned (.agg #[.string ⟨#[97]⟩, .slice A n c, .bool false]) ∧ SpOn w' A n exN ∧ Below wx.heap.size wx w') := hide (fun wx A n c hx =>
    (notT_any exA exS true A n c wx hx (by decide) (by decide)).mono fun e w' ⟨A1, n1, c1, he, hN, hb⟩ => ⟨A1, n1, c1, he, by rw [← not_ex]; exact on_new hN, hb⟩)
  have H3 : Hid (∀ wx A n c, SpOn wx A n exN → Below w.heap.size w wx → Calls Tryd.prog 11 #[.agg #[.string ⟨#[97]⟩, .slice A n c, .bool false]] wx fun e w' => e = .returned (.string ⟨#[97, 32, 60, 49, 46, 48, 46, 48, 32, 124, 32, 62, 61, 49, 46, 48, 46, 49]⟩) ∧ Below wx.heap.size wx w') := hide (fun wx A n c hx hb => by
    have := showT_any exA exN false A n c wx hx (by rw [hx.len]; decide) (by decide) (hT.below hb)
    rw [show_exN] at this
    exact this)
  obtain ⟨W, hW⟩ : ∃ W, W = (w.alloc (.cells #[.int .i64 1000000, .int .i64 1000001] 34)).alloc (.cells #[.string ⟨#[97]⟩, .slice (some ⟨w.heap.size, 0, none⟩) 1 1, .bool true] 24) := ⟨_, rfl⟩
  have hbW : Below w.heap.size w W := by rw [hW]; exact ((Below.refl _ _).alloc (Nat.le_refl _) _).alloc (by simp) _
  have bk : Blk W (w.heap.size + 1) 24 #[.string ⟨#[97]⟩, .slice (some ⟨w.heap.size, 0, none⟩) 1 1, .bool true] := by
    rw [hW]
    have := Blk.new (w.alloc (.cells #[.int .i64 1000000, .int .i64 1000001] 34)) 24 #[.string ⟨#[97]⟩, .slice (some ⟨w.heap.size, 0, none⟩) 1 1, .bool true]
    rwa [World.size_alloc] at this
  have hS : SpOn W (some ⟨w.heap.size, 0, none⟩) 1 exS := by rw [hW]; exact (spOn_one w 1000000 1000001 _ rfl).on (alloc_b _)
  have k0 := bk.cell 0
  have k1 := bk.cell 1
  have k2 := bk.cell 2
  clear hT
  go_enter Tryd.func6, Tryd.ntmps6
  go_upto_region 2 with fail
  try rw [← hW]
  clear hW
  go_wp2_with (first
    | (go_at_call 11
       refine (H3.out _ _ _ _ h2 hb2).mono ?_
       rintro e w3 ⟨rfl, hb3'⟩
       have hb3 := hb2.trans (hb3'.mono hb2.size))
    | (go_at_call 17
       refine (H2.out _ _ _ _ hS1).mono ?_
       rintro e w2 ⟨A2, n2, c2, rfl, h2, hb2'⟩
       have hb2 := hb1.trans (hb2'.mono hb1.size))
    | (go_at_call 11
       refine (H1.out _ _ _ _ hS hbW).mono ?_
       rintro e w1 ⟨rfl, hb1'⟩
       have hb1 := hbW.trans (hb1'.mono hbW.size)
       have hS1 := hS.on hb1'
       have bk1 := bk.below hb1' bk.lt
       have k0 := bk1.cell 0
       have k1 := bk1.cell 1
       have k2 := bk1.cell 2))
  go_ret
  exact ⟨rfl, hb3⟩
/-- The relation 'a term that reads so', and a call that answers such a term. -/
def tmO (t : Tm) : Rel := fun w v => ∃ A n c, v = .agg #[.string t.name, .slice A n c, .bool t.none] ∧ SpOn w A n t.set
theorem tmO_stable (t : Tm) : ∀ w w' v, Below w.heap.size w w' → tmO t w v → tmO t w' v := fun _ _ _ hb ⟨A, n, c, hv, h⟩ => ⟨A, n, c, hv, h.on hb⟩
def Ans (w : World) (t : Tm) (e : Ending) (w' : World) : Prop := ∃ A n c, e = .returned (.agg #[.string t.name, .slice A n c, .bool t.none]) ∧ SpOn w' A n t.set ∧ Below w.heap.size w w'
theorem ans_of {f : FuncId} {args : Array Value} {w : World} {t : Tm} (h : Calls Tryd.prog f args w (MakesT w t)) : Calls Tryd.prog f args w (Ans w t) :=
  h.mono fun _ _ ⟨A, n, c, he, hN, hb⟩ => ⟨A, n, c, he, on_new hN, hb⟩
theorem same_true (t : Tm) : (decide (t.name = t.name) && (t.none == t.none && decide (t.set = t.set))) = true := by simp
theorem small_of {t : Tm} (h : largeT t = false) : t.set.length ≤ 60 ∧ t.name.size ≤ 200 := by
  unfold largeT at h
  simp only [Bool.or_eq_false_iff, decide_eq_false_iff_not] at h
  omega
end Go.Proofs.YtgmkagddfbfolaaDoor.Term
