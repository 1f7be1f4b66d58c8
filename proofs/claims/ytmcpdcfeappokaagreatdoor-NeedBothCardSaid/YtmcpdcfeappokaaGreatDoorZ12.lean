/-
  Some texts of this claim, one behind the other: NeedNames, NeedCheck, NeedSame. What each proves, and its condition, stands at its head.
-/
import Derived.Test.YtmcpdcfeappokaaGreatDoorZ6
import Derived.Test.YtmcpdcfeappokaaGreatDoorZ11
import Derived.Laws.Cover1
import Derived.Test.YtmcpdcfeappokaaGreatDoorZ3
import Derived.Shelf.Abstract
/-
  Contracts on names: how two stand (cmp.Compare, at strings; the closure that compares needs), whether one may follow another; which needs are large. No condition beyond the length of a text.
-/
namespace Go.Proofs.YtmcpdcfeappokaaGreatDoor.Need
open Go.RowKit Go.Lib Go.Proofs.YtmcpdcfeappokaaGreatDoor.Span
open Go.Proofs.YtmcpdcfeappokaaGreatDoor.Label (runes fitL fit_any)
set_option linter.unusedVariables false
theorem nan_any (a : ByteArray) (w : World) : Calls Tryz.prog 44 #[.string a] w fun e w' => e = .returned (.bool false) ∧ w = w' := by
  go_enter Tryz.func44, Tryz.ntmps44
  go_wp2
  go_ret
  exact ⟨by simp, rfl⟩
/-- How two names stand. -/
def cmpN (a b : ByteArray) : Int := if nlt a b = true then -1 else if nlt b a = true then 1 else 0
theorem tri (a b : ByteArray) : (Op.bytesLess a.toList b.toList = true ∧ nlt b a = false ∧ (a.toList == b.toList) = false) ∨ (Op.bytesLess a.toList b.toList = false ∧ nlt b a = false ∧ (a.toList == b.toList) = true) ∨ (Op.bytesLess a.toList b.toList = false ∧ nlt b a = true ∧ (a.toList == b.toList) = false) := by
  rw [eq_names]
  show (nlt a b = true ∧ _) ∨ (nlt a b = false ∧ _) ∨ (nlt a b = false ∧ _)
  by_cases h1 : nlt a b = true
  · exact .inl ⟨h1, nlt_asymm h1, decide_eq_false (nlt_ne h1)⟩
  · have h1' : nlt a b = false := by simpa using h1
    by_cases h2 : a = b
    · exact .inr (.inl ⟨h1', by rw [h2]; exact nlt_self b, decide_eq_true h2⟩)
    · have h3 : nlt b a = true := by
        cases g : nlt b a with
        | true => rfl
        | false => exact absurd (nlt_tri h1' g) h2
      exact .inr (.inr ⟨h1', h3, decide_eq_false h2⟩)
theorem compare_any (a b : ByteArray) (w : World) : Calls Tryz.prog 28 #[.string a, .string b] w fun e w' => e = .returned (.int .i64 (cmpN a b)) ∧ w = w' := by
  have HN := hide (fun x wx => nan_any x wx)
  have Hc : cmpN a b = if Op.bytesLess a.toList b.toList = true then -1 else if nlt b a = true then 1 else 0 := rfl
  rcases tri a b with ⟨f1, f2, f3⟩ | ⟨f1, f2, f3⟩ | ⟨f1, f2, f3⟩ <;>
  · rw [f1, f2] at Hc
    simp only [Bool.false_eq_true, if_true, if_false] at Hc
    rw [Hc]
    clear Hc f2
    go_enter Tryz.func28, Tryz.ntmps28
    go_wp2_with (go_at_call 44
                 refine (HN.out _ _).mono ?_
                 rintro e w1 ⟨rfl, rfl⟩)
    go_ret
    exact ⟨rfl, rfl⟩
set_option maxHeartbeats 1000000 in
theorem stand_any (a b : ByteArray) (A A' : Option Addr) (n c n' c' : Nat) (w : World) :
    Calls Tryz.prog 27 #[.agg #[.string a, .slice A n c], .agg #[.string b, .slice A' n' c']] w fun e w' => e = .returned (.int .i64 (cmpN a b)) ∧ Below w.heap.size w w' := by
  have HN := hide (fun wx => compare_any a b wx)
  generalize cmpN a b = C at *
  go_enter Tryz.func27, Tryz.ntmps27
  go_wp2_with (go_at_call 28
               refine (HN.out _).mono ?_
               rintro e w1 ⟨rfl, rfl⟩)
  go_ret
  exact ⟨rfl, ((Below.refl _ _).alloc (Nat.le_refl _) _).alloc (by simp) _⟩
theorem follows_any (a b : ByteArray) (w : World) (hs : a.size ≤ 9223372036854775807) :
    Calls Tryz.prog 20 #[.string a, .string b] w fun e w' => e = .returned (.bool (fitL (runes a 0) && nlt b a)) ∧ Below w.heap.size w w' := by
  have HF := hide (fun wx => fit_any a wx hs)
  generalize fitL (runes a 0) = y at *
  clear hs
  rcases tri a b with ⟨f1, f2, f3⟩ | ⟨f1, f2, f3⟩ | ⟨f1, f2, f3⟩ <;>
  · rw [f2]
    clear f2
    cases y <;>
    · go_enter Tryz.func20, Tryz.ntmps20
      go_wp2_with (go_at_call 40
                   refine (HF.out _).mono ?_
                   rintro e w1 ⟨rfl, hb1⟩)
      go_ret
      exact ⟨rfl, hb1⟩
/-- Needs that are more, or longer, than are looked at. -/
def bigN (q : Nd) : Bool := decide (40 < q.2.length) || decide (100 < q.1.size)
def large (l : List Nd) : Bool := decide (40 < l.length) || l.any bigN
theorem any_drop {l : List Nd} {i : Nat} {q : Nd} (h : l[i]? = some q) : (l.drop i).any bigN = (bigN q || (l.drop (i + 1)).any bigN) := by
  obtain ⟨hi, e⟩ := List.getElem?_eq_some_iff.1 h
  rw [List.drop_eq_getElem_cons hi, e]
  rfl
set_option maxHeartbeats 2000000 in
theorem large_any (l : List Nd) (A : Option Addr) (n c : Nat) (w : World) (h : NdOn w A n l) (hn : n ≤ 9223372036854775807) :
    Calls Tryz.prog 5 #[.slice A n c] w fun e w' => e = .returned (.bool (large l)) ∧ Below w.heap.size w w' := by
  have hlen := h.len
  by_cases hb : 40 < n
  · have e : large l = true := by unfold large; rw [decide_eq_true (by omega)]; rfl
    rw [e]
    clear e h hlen
    go_enter Tryz.func5, Tryz.ntmps5
    go_wp2
    go_ret
    exact ⟨rfl, Below.refl _ _⟩
  · have e : large l = l.any bigN := by unfold large; rw [decide_eq_false (by omega)]; rfl
    have Hl : Hid (large l = l.any bigN) := hide e
    have Hd := hide (fun i q => @any_drop l i q)
    clear e
    generalize large l = L at *
    have hlen' := hide hlen
    clear hlen
    go_enter Tryz.func5, Tryz.ntmps5
    go_wp2
    go_loopw [3] (fun v wr => ∃ i : Nat, i ≤ n ∧ v = .int .i64 (i : Int) ∧ Hid (L = (l.drop i).any bigN) ∧ Below w.heap.size w wr) (fun v _ => n - (RowKit.intOf v).toNat)
    case atStart => exact ⟨0, by omega, rfl, Hl, Below.refl _ _⟩
    case round =>
      obtain ⟨i, hi, rfl, hf, hbw⟩ := hrel
      by_cases hlt : i < n
      · obtain ⟨ad, q, A', n', c', rfl, hbl, hx, hs, c1, c2⟩ := NdIn.at_ (NdIn.below h hbw) hlt
        have hq := (Hd.out i q hx)
        obtain ⟨nm, s⟩ := q
        have hsl : n' = s.length := hs.1.symm
        have Hq : Hid ((l.drop i).any bigN = (decide (40 < n') || decide (100 < nm.size) || (l.drop (i + 1)).any bigN)) := hide (by rw [hq, hsl]; rfl)
        simp only [] at c1 c2
        have hf2 := hf.out.trans Hq.out
        have Hf2 := hide hf2
        clear hq hx hsl hs hf Hq hf2 h Hd
        by_cases h1 : 40 < n'
        · have e : L = true := by rw [Hf2.out, decide_eq_true h1]; rfl
          subst e
          clear Hf2
          have h1z : (40 : Int) < (n' : Int) := by omega
          go_wp2
          go_ret
          exact ⟨rfl, hbw⟩
        · have h1z : ¬ (40 : Int) < (n' : Int) := by omega
          by_cases h2 : 100 < nm.size
          · have e : L = true := by rw [Hf2.out, decide_eq_true h2]; simp
            subst e
            clear Hf2
            have h2z : (100 : Int) < (nm.size : Int) := by omega
            go_wp2
            go_ret
            exact ⟨rfl, hbw⟩
          · have h2z : ¬ (100 : Int) < (nm.size : Int) := by omega
            have e : Hid (L = (l.drop (i + 1)).any bigN) := hide (by rw [Hf2.out, decide_eq_false h1, decide_eq_false h2]; rfl)
            clear Hf2
            go_wp2
            go_roundw
            case rel => exact ⟨i + 1, by omega, by go_num, e, hbw⟩
            case measure => simp [RowKit.intOf]; omega
      · have hi2 : i = n := by omega
        have e : Hid (L = false) := hide (by rw [hf.out, List.drop_of_length_le (by have := hlen'.out; omega)]; rfl)
        clear hf
        go_wp2
        go_ret
        exact ⟨by rw [e.out]; rfl, hbw⟩
end Go.Proofs.YtmcpdcfeappokaaGreatDoor.Need
/-
  The contract of the program's Check: which needs may be. Condition: the slices read as needs, of at most 1,000,000,001 spans each; names as long as a text may be.
-/
namespace Go.Proofs.YtmcpdcfeappokaaGreatDoor.Need
open Go.RowKit Go.Lib Go.Proofs.YtmcpdcfeappokaaGreatDoor.Span
open Go.Proofs.YtmcpdcfeappokaaGreatDoor.Label (runes fitL)
set_option linter.unusedVariables false
def Names (l : List Nd) : Prop := ∀ q ∈ l, q.1.size ≤ 140737488355328 ∧ q.2.length ≤ 1000000001
set_option maxHeartbeats 4000000 in
theorem checkN_any (l : List Nd) (A : Option Addr) (n c : Nat) (w : World) (h : NdOn w A n l) (hl : Names l) (hn : n ≤ 140737488355328) :
    Calls Tryz.prog 9 #[.slice A n c] w fun e w' => e = .returned (.bool (okS l)) ∧ Below w.heap.size w w' := by
  have hlen := h.len
  have e : okS l = (okFrom ByteArray.empty l && decide (n ≤ 6)) := by unfold okS; rw [hlen]
  have Hl : Hid (okS l = (okFrom ByteArray.empty l && decide (n ≤ 6))) := hide e
  have Hd := hide (fun a i q => @ok_drop l a i q)
  clear e
  generalize okS l = L at *
  obtain ⟨F, hF⟩ : ∃ F, F = okFrom ByteArray.empty l := ⟨_, rfl⟩
  rw [← hF] at Hl
  have HF := hide hF
  have Hlen := hide hlen
  clear hF hlen
  go_enter Tryz.func9, Tryz.ntmps9
  go_wp2
  go_loopw [3, 8] (fun u v wr => ∃ (i : Nat) (a : ByteArray), i ≤ n ∧ u = .string a ∧ v = .int .i64 (i : Int) ∧ Hid (F = okFrom a (l.drop i)) ∧ Below w.heap.size w wr) (fun _ v _ => n - (RowKit.intOf v).toNat)
  case atStart => exact ⟨0, ByteArray.empty, by omega, rfl, rfl, HF, Below.refl _ _⟩
  case round =>
    obtain ⟨i, a, hi, rfl, rfl, hf, hb⟩ := hrel
    by_cases hlt : i < n
    · obtain ⟨ad, q, A', n', c', rfl, hbl, hx, hs, c1, c2⟩ := NdIn.at_ (NdIn.below h hb) hlt
      obtain ⟨hq1, hq2⟩ := hl q (List.mem_of_getElem? hx)
      have hd := hf.out.trans (Hd.out a i q hx)
      obtain ⟨nm, s⟩ := q
      simp only [] at c1 c2 hs hq1 hq2 hd
      have hsl := hs.1
      have HC := hide (fun (wx : World) (hbx : Below wr.heap.size wr wx) => @check_any _ _ c' A' s wx ((hs.below (hbx.mono hb.size)).more (Nat.le_trans hb.size hbx.size)) (Nat.le_refl _) (by omega))
      have HW := hide (fun (wx : World) => follows_any nm a wx (by omega))
      have hbs := hb.size
      rw [hsl] at hd
      have Hd2 := hide hd
      clear hx hf hs hq1 hq2 hd hsl Hd h hl
      generalize (fitL (runes nm 0) && nlt a nm) = y at *
      generalize isSet (-1) s = z at *
      cases y
      · have e : Hid (F = false) := hide (by rw [Hd2.out]; rfl)
        clear Hd2
        go_wp2_with (go_at_call 20
                     refine (HW.out _).mono ?_
                     rintro e w1 ⟨rfl, hb1⟩
                     have hbw := (hb.alloc hbs (.cells #[.string nm, .slice A' n' c'] 33)).trans (hb1.mono (by simp; omega)))
        go_ret
        exact ⟨by rw [Hl.out, e.out]; rfl, hbw⟩
      · cases z
        · have e : Hid (F = false) := hide (by rw [Hd2.out]; simp)
          clear Hd2
          go_wp2_with (first
            | (go_at_call 20
               refine (HW.out _).mono ?_
               rintro e w1 ⟨rfl, hb1⟩
               have hbx := (alloc_b (w := wr) (.cells #[.string nm, .slice A' n' c'] 33)).trans (hb1.mono (by simp))
               have hblk := (Blk.new wr 33 #[.string nm, .slice A' n' c']).below hb1 (by simp)
               have k1 := hblk.cell 0
               have k2 := hblk.cell 1)
            | (go_at_call 21
               refine (HC.out _ hbx).mono ?_
               rintro e w2 ⟨rfl, hb2⟩
               have hbw := hb.trans ((hbx.trans (hb2.mono hbx.size)).mono hbs)))
          go_ret
          exact ⟨by rw [Hl.out, e.out]; rfl, hbw⟩
        · by_cases h6 : n' ≤ 6
          · have e : Hid (F = okFrom nm (l.drop (i + 1))) := hide (by rw [Hd2.out, decide_eq_true h6]; rfl)
            have h6z : ¬ ((6 : Int) < (n' : Int)) := by omega
            clear Hd2
            go_wp2_with (first
              | (go_at_call 20
                 refine (HW.out _).mono ?_
                 rintro e w1 ⟨rfl, hb1⟩
                 have hbx := (alloc_b (w := wr) (.cells #[.string nm, .slice A' n' c'] 33)).trans (hb1.mono (by simp))
                 have hblk := (Blk.new wr 33 #[.string nm, .slice A' n' c']).below hb1 (by simp)
                 have k1 := hblk.cell 0
                 have k2 := hblk.cell 1)
              | (go_at_call 21
                 refine (HC.out _ hbx).mono ?_
                 rintro e w2 ⟨rfl, hb2⟩
                 have hbw := hb.trans ((hbx.trans (hb2.mono hbx.size)).mono hbs)
                 have hblk2 := hblk.below hb2 hblk.lt
                 have k3 := hblk2.cell 0
                 have k4 := hblk2.cell 1))
            go_roundw
            case rel => exact ⟨i + 1, nm, by omega, rfl, by go_num, e, hbw⟩
            case measure => simp [RowKit.intOf]; omega
          · have e : Hid (F = false) := hide (by rw [Hd2.out, decide_eq_false h6]; rfl)
            have h6z : (6 : Int) < (n' : Int) := by omega
            clear Hd2
            go_wp2_with (first
              | (go_at_call 20
                 refine (HW.out _).mono ?_
                 rintro e w1 ⟨rfl, hb1⟩
                 have hbx := (alloc_b (w := wr) (.cells #[.string nm, .slice A' n' c'] 33)).trans (hb1.mono (by simp))
                 have hblk := (Blk.new wr 33 #[.string nm, .slice A' n' c']).below hb1 (by simp)
                 have k1 := hblk.cell 0
                 have k2 := hblk.cell 1)
              | (go_at_call 21
                 refine (HC.out _ hbx).mono ?_
                 rintro e w2 ⟨rfl, hb2⟩
                 have hbw := hb.trans ((hbx.trans (hb2.mono hbx.size)).mono hbs)
                 have hblk2 := hblk.below hb2 hblk.lt
                 have k3 := hblk2.cell 0
                 have k4 := hblk2.cell 1))
            go_ret
            exact ⟨by rw [Hl.out, e.out]; rfl, hbw⟩
    · have hi2 : i = n := by omega
      have e : Hid (F = true) := hide (by rw [hf.out, List.drop_of_length_le (by have := Hlen.out; omega)]; rfl)
      clear hf
      by_cases h6 : n ≤ 6
      · have h6z : (n : Int) ≤ 6 := by omega
        go_wp2
        go_ret
        exact ⟨by rw [Hl.out, e.out, decide_eq_true h6]; rfl, hb⟩
      · have h6z : ¬ (n : Int) ≤ 6 := by omega
        go_wp2
        go_ret
        exact ⟨by rw [Hl.out, e.out, decide_eq_false h6]; rfl, hb⟩
end Go.Proofs.YtmcpdcfeappokaaGreatDoor.Need
/-
  Contracts of the program's Same (over the library's EqualFunc and a closure) and the document's: whether needs are alike. Condition: the slices read as needs, of at most 1,000,000,001 spans each.
-/
namespace Go.Proofs.YtmcpdcfeappokaaGreatDoor.Need
open Go.RowKit Go.Lib Go.Proofs.YtmcpdcfeappokaaGreatDoor.Span
set_option linter.unusedVariables false
set_option maxHeartbeats 1000000 in
theorem alike_any (a b : ByteArray) (A A' : Option Addr) (n c n' c' : Nat) (s t : List S) (w : World) (h : SpIn w w.heap.size A n s) (h' : SpIn w w.heap.size A' n' t) (hn : n ≤ 1000000001) (hn' : n' ≤ 1000000001) :
    Calls Tryz.prog 25 #[.agg #[.string a, .slice A n c], .agg #[.string b, .slice A' n' c']] w fun e w' => e = .returned (.bool (decide (((a, s) : Nd) = (b, t)))) ∧ Below w.heap.size w w' := by
  have HS := hide (fun (wx : World) (hb : Below w.heap.size w wx) => @same_any _ _ c _ _ c' _ _ s t wx (h.below hb) (h'.below hb) hn hn')
  have e : decide (((a, s) : Nd) = (b, t)) = (decide (a = b) && decide (s = t)) := by
    rw [Bool.eq_iff_iff]; simp
  rw [e, ← eq_names]
  generalize decide (s = t) = y at *
  cases f : (a.toList == b.toList) <;>
  · clear h h' e
    go_enter Tryz.func25, Tryz.ntmps25
    go_wp2_with (go_at_call 26
                 refine (HS.out _ ?_).mono ?_
                 · exact ((Below.refl _ _).alloc (Nat.le_refl _) _).alloc (by simp) _
                 rintro e w1 ⟨rfl, k, rfl⟩)
    go_ret
    exact ⟨rfl, by first | exact below_drewN (((Below.refl _ _).alloc (Nat.le_refl _) _).alloc (by simp) _) k | exact ((Below.refl _ _).alloc (Nat.le_refl _) _).alloc (by simp) _⟩
theorem alike_snoc {l m : List Nd} {i : Nat} {s t : Nd} (h : l.take i = m.take i) (h1 : l[i]? = some s) (h2 : m[i]? = some t) (h3 : s = t) : l.take (i + 1) = m.take (i + 1) := by
  rw [List.take_add_one, List.take_add_one, h, h1, h2, h3]
theorem alike_ne {l m : List Nd} {i : Nat} {s t : Nd} (h1 : l[i]? = some s) (h2 : m[i]? = some t) (h3 : ¬ s = t) : decide (l = m) = false := by
  refine decide_eq_false fun e => ?_
  subst e
  rw [h1] at h2
  injection h2 with h2
  exact h3 h2
def Short (l : List Nd) : Prop := ∀ q ∈ l, q.2.length ≤ 1000000001
set_option maxHeartbeats 2000000 in
theorem sameN_any (l m : List Nd) (A A' : Option Addr) (n c n' c' : Nat) (w : World) (h : NdOn w A n l) (h' : NdOn w A' n' m) (hl : Short l) (hm : Short m) (hn : n ≤ 140737488355328) :
    Calls Tryz.prog 11 #[.slice A n c, .slice A' n' c'] w fun e w' => e = .returned (.bool (decide (l = m))) ∧ Below w.heap.size w w' := by
  have key : Calls Tryz.prog 24 #[.slice A n c, .slice A' n' c', .func (.func 25) #[] #[]] w fun e w' => e = .returned (.bool (decide (l = m))) ∧ Below w.heap.size w w' := by
    have h1 := h.len
    have h2 := h'.len
    obtain ⟨r, hr⟩ : ∃ r, r = decide (l = m) := ⟨_, rfl⟩
    rw [← hr]
    have Hr := hide hr
    clear hr
    by_cases hnn : n = n'
    · subst hnn
      have H1 := hide h1
      have H2 := hide h2
      clear h1 h2
      go_enter Tryz.func24, Tryz.ntmps24
      go_wp2
      go_loopw [17] (fun v wr => ∃ (i : Nat), i ≤ n ∧ v = .int .i64 (i : Int) ∧ Hid (l.take i = m.take i) ∧ Below w.heap.size w wr) (fun v _ => n - (RowKit.intOf v).toNat)
      case atStart => exact ⟨0, by omega, rfl, hide rfl, Below.refl _ _⟩
      case round =>
        obtain ⟨i, hi, rfl, hf, hb⟩ := hrel
        by_cases hlt : i < n
        · obtain ⟨ad, q, B1, m1, k1, rfl, hbl, hx, hs, c1, c2⟩ := NdIn.at_ (NdIn.below h hb) hlt
          obtain ⟨ad', q', B2, m2, k2, rfl, hbl', hx', hs', c1', c2'⟩ := NdIn.at_ (NdIn.below h' hb) hlt
          have hsn := hide (@alike_snoc l m i q q' hf.out hx hx')
          have hne := hide (@alike_ne l m i q q' hx hx')
          have hq1 := hl q (List.mem_of_getElem? hx)
          have hq2 := hm q' (List.mem_of_getElem? hx')
          obtain ⟨nm, s⟩ := q
          obtain ⟨nm', s'⟩ := q'
          simp only [] at c1 c2 c1' c2' hs hs' hq1 hq2
          have HC := hide (fun (wx : World) (hbx : Below wr.heap.size wr wx) => alike_any nm nm' B1 B2 m1 k1 m2 k2 s s' wx ((hs.below (hbx.mono hb.size)).more (Nat.le_trans hb.size hbx.size)) ((hs'.below (hbx.mono hb.size)).more (Nat.le_trans hb.size hbx.size)) (by have := hs.1; omega) (by have := hs'.1; omega))
          have Hy := hide (show decide (((nm, s) : Nd) = (nm', s')) = true → ((nm, s) : Nd) = (nm', s') from of_decide_eq_true)
          have Hn := hide (show decide (((nm, s) : Nd) = (nm', s')) = false → ¬ ((nm, s) : Nd) = (nm', s') from of_decide_eq_false)
          have hbs := hb.size
          have k1' : ∀ o, (wr.alloc o).cell? (ad'.add (i * 2)) = some (.string nm') := fun o => (World.cell?_alloc_lt _ _ _ (by rw [block_of_add]; omega)).trans c1'
          have k2' : ∀ o, (wr.alloc o).cell? ⟨(ad'.add (i * 2)).block, (ad'.add (i * 2)).off + 1, none⟩ = some (.slice B2 m2 k2) := fun o => (World.cell?_alloc_lt _ _ _ (by simp only [block_of_add]; omega)).trans c2'
          clear hx hx' hf hs hs' hq1 hq2 h h'
          generalize decide (((nm, s) : Nd) = (nm', s')) = b at *
          cases b <;>
          · go_wp2_with (go_at_call 25
                         refine (HC.out _ ?_).mono ?_
                         · exact ((Below.refl _ _).alloc (Nat.le_refl _) _).alloc (by simp) _
                         rintro e w1 ⟨rfl, hb1⟩
                         have hbw : Below w.heap.size w w1 := hb.trans ((((Below.refl _ _).alloc (Nat.le_refl _) _).alloc (by simp) _ |>.trans (hb1.mono (by simp; omega))).mono hbs))
            first
              | (go_ret
                 have e := hne.out (Hn.out (by first | rfl | trivial))
                 have e2 : r = false := by rw [Hr.out]; exact e
                 exact ⟨by rw [e2]; rfl, hbw⟩)
              | (go_roundw
                 case rel => exact ⟨i + 1, by omega, by go_num, hide (hsn.out (Hy.out (by first | rfl | trivial))), hbw⟩
                 case measure => simp [RowKit.intOf]; omega)
        · have hi2 : i = n := by omega
          subst hi2
          have hq := hf.out
          rw [List.take_of_length_le (by rw [H1.out]; exact Nat.le_refl _), List.take_of_length_le (by rw [H2.out]; exact Nat.le_refl _)] at hq
          have e2 : r = true := by rw [Hr.out]; exact decide_eq_true hq
          have E2 := hide e2
          clear hf hq e2
          go_wp2
          go_ret
          exact ⟨by rw [E2.out]; rfl, hb⟩
    · have e2 : r = false := by rw [Hr.out]; exact decide_eq_false fun e => hnn (by rw [← h1, ← h2, e])
      have E2 := hide e2
      clear e2 h1 h2
      go_enter Tryz.func24, Tryz.ntmps24
      go_wp2
      go_ret
      exact ⟨by rw [E2.out]; rfl, Below.refl _ _⟩
  have He := hide key
  clear key
  generalize decide (l = m) = r at *
  clear h h' hl hm hn
  go_enter Tryz.func11, Tryz.ntmps11
  go_wp2_with (go_at_call 24; refine He.out.mono ?_; rintro e w1 ⟨rfl, hb⟩)
  go_ret
  exact ⟨rfl, hb⟩
end Go.Proofs.YtmcpdcfeappokaaGreatDoor.Need
