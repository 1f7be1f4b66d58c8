/-
  Some texts of this claim, one behind the other: NeedNames, NeedCheck, ManiMath, ManiCells, ManiCheck, NeedRefCheck, ManiRefCheck. What each proves, and its condition, stands at its head.
-/
import Derived.Test.YtdmejcfnolhplaaGreatZA17
import Derived.Test.YtdmejcfnolhplaaGreatZA20
import Derived.Laws.Cover1
import Derived.Test.YtdmejcfnolhplaaGreatZA11
import Derived.Shelf.Abstract
import Derived.Test.YtdmejcfnolhplaaGreatZA13
import Derived.Test.YtdmejcfnolhplaaGreatZA7
/-
  Contracts on names: how two stand (cmp.Compare, at strings; the closure that compares needs), whether one may follow another; which needs are large. No condition beyond the length of a text.
-/
namespace Go.Proofs.YtdmejcfnolhplaaGreat.Need
open Go.RowKit Go.Lib Go.Proofs.YtdmejcfnolhplaaGreat.Span
open Go.Proofs.YtdmejcfnolhplaaGreat.Label (runes fitL fit_any)
set_option linter.unusedVariables false
theorem tri (a b : ByteArray) : (Op.bytesLess a.toList b.toList = true ∧ nlt b a = false ∧ (a.toList == b.toList) = false) ∨ (Op.bytesLess a.toList b.toList = false ∧ nlt b a = false ∧ (a.toList == b.toList) = true) ∨ (Op.bytesLess a.toList b.toList = false ∧ nlt b a = true ∧ (a.toList == b.toList) = false) := by
  rw [eq_names]
  show (nlt a b = true ∧ _) ∨ (nlt a b = false ∧ _) ∨ (nlt a b = false ∧ _)
  by_cases h1 : nlt a b = true
  · exact .inl ⟨h1, nlt_asymm h1, decide_eq_false (nlt_ne h1)⟩
  · have h1' : nlt a b = false := by simpa using h1
    by_cases h2 : a = b
    · exact .inr (.inl ⟨h1', by rw [h2]; exact nlt_self b, decide_eq_true h2⟩)
    · have h3 : nlt b a = true := by
        cases g : nlt b a with
        | true => rfl
        | false => exact absurd (nlt_tri h1' g) h2
      exact .inr (.inr ⟨h1', h3, decide_eq_false h2⟩)
theorem follows_any (a b : ByteArray) (w : World) (hs : a.size ≤ 9223372036854775807) :
    Calls Tryz.prog 157 #[.string a, .string b] w fun e w' => e = .returned (.bool (fitL (runes a 0) && nlt b a)) ∧ Below w.heap.size w w' := by
  have HF := hide (fun wx => fit_any a wx hs)
  generalize fitL (runes a 0) = y at *
  clear hs
  rcases tri a b with ⟨f1, f2, f3⟩ | ⟨f1, f2, f3⟩ | ⟨f1, f2, f3⟩ <;>
  · rw [f2]
    clear f2
    cases y <;>
    · go_enter Tryz.func157, Tryz.ntmps157
      go_wp2_with (go_at_call 42
                   refine (HF.out _).mono ?_
                   rintro e w1 ⟨rfl, hb1⟩)
      go_ret
      exact ⟨rfl, hb1⟩
def bigN (q : Nd) : Bool := decide (40 < q.2.length) || decide (100 < q.1.size)
def large (l : List Nd) : Bool := decide (40 < l.length) || l.any bigN
theorem any_drop {l : List Nd} {i : Nat} {q : Nd} (h : l[i]? = some q) : (l.drop i).any bigN = (bigN q || (l.drop (i + 1)).any bigN) := by
  obtain ⟨hi, e⟩ := List.getElem?_eq_some_iff.1 h
  rw [List.drop_eq_getElem_cons hi, e]
  rfl
set_option maxHeartbeats 2000000 in
theorem large_any (l : List Nd) (A : Option Addr) (n c : Nat) (w : World) (h : NdOn w A n l) (hn : n ≤ 9223372036854775807) :
    Calls Tryz.prog 6 #[.slice A n c] w fun e w' => e = .returned (.bool (large l)) ∧ Below w.heap.size w w' := by
  have hlen := h.len
  by_cases hb : 40 < n
  · have e : large l = true := by unfold large; rw [decide_eq_true (by omega)]; rfl
    rw [e]
    clear e h hlen
    go_enter Tryz.func6, Tryz.ntmps6
    go_wp2
    go_ret
    exact ⟨rfl, Below.refl _ _⟩
  · have e : large l = l.any bigN := by unfold large; rw [decide_eq_false (by omega)]; rfl
    have Hl : Hid (large l = l.any bigN) := hide e
    have Hd := hide (fun i q => @any_drop l i q)
    clear e
    generalize large l = L at *
    have hlen' := hide hlen
    clear hlen
    go_enter Tryz.func6, Tryz.ntmps6
    go_wp2
    go_loopw [3] (fun v wr => ∃ i : Nat, i ≤ n ∧ v = .int .i64 (i : Int) ∧ Hid (L = (l.drop i).any bigN) ∧ Below w.heap.size w wr) (fun v _ => n - (RowKit.intOf v).toNat)
    case atStart => exact ⟨0, by omega, rfl, Hl, Below.refl _ _⟩
    case round =>
      obtain ⟨i, hi, rfl, hf, hbw⟩ := hrel
      by_cases hlt : i < n
      · obtain ⟨ad, q, A', n', c', rfl, hbl, hx, hs, c1, c2⟩ := NdIn.at_ (NdIn.below h hbw) hlt
        have hq := (Hd.out i q hx)
        obtain ⟨nm, s⟩ := q
        have hsl : n' = s.length := hs.1.symm
        have Hq : Hid ((l.drop i).any bigN = (decide (40 < n') || decide (100 < nm.size) || (l.drop (i + 1)).any bigN)) := hide (by rw [hq, hsl]; rfl)
        simp only [] at c1 c2
        have hf2 := hf.out.trans Hq.out
        have Hf2 := hide hf2
        clear hq hx hsl hs hf Hq hf2 h Hd
        by_cases h1 : 40 < n'
        · have e : L = true := by rw [Hf2.out, decide_eq_true h1]; rfl
          subst e
          clear Hf2
          have h1z : (40 : Int) < (n' : Int) := by omega
          go_wp2
          go_ret
          exact ⟨rfl, hbw⟩
        · have h1z : ¬ (40 : Int) < (n' : Int) := by omega
          by_cases h2 : 100 < nm.size
          · have e : L = true := by rw [Hf2.out, decide_eq_true h2]; simp
            subst e
            clear Hf2
            have h2z : (100 : Int) < (nm.size : Int) := by omega
            go_wp2
            go_ret
            exact ⟨rfl, hbw⟩
          · have h2z : ¬ (100 : Int) < (nm.size : Int) := by omega
            have e : Hid (L = (l.drop (i + 1)).any bigN) := hide (by rw [Hf2.out, decide_eq_false h1, decide_eq_false h2]; rfl)
            clear Hf2
            go_wp2
            go_roundw
            case rel => exact ⟨i + 1, by omega, by go_num, e, hbw⟩
            case measure => simp [RowKit.intOf]; omega
      · have hi2 : i = n := by omega
        have e : Hid (L = false) := hide (by rw [hf.out, List.drop_of_length_le (by have := hlen'.out; omega)]; rfl)
        clear hf
        go_wp2
        go_ret
        exact ⟨by rw [e.out]; rfl, hbw⟩
end Go.Proofs.YtdmejcfnolhplaaGreat.Need
/-
  The contract of the program's Check: which needs may be. Condition: the slices read as needs, of at most 1,000,000,001 spans each; names as long as a text may be.
-/
namespace Go.Proofs.YtdmejcfnolhplaaGreat.Need
open Go.RowKit Go.Lib Go.Proofs.YtdmejcfnolhplaaGreat.Span
open Go.Proofs.YtdmejcfnolhplaaGreat.Label (runes fitL)
set_option linter.unusedVariables false
def Names (l : List Nd) : Prop := ∀ q ∈ l, q.1.size ≤ 140737488355328 ∧ q.2.length ≤ 1000000001
set_option maxHeartbeats 4000000 in
theorem checkN_any (l : List Nd) (A : Option Addr) (n c : Nat) (w : World) (h : NdOn w A n l) (hl : Names l) (hn : n ≤ 140737488355328) :
    Calls Tryz.prog 139 #[.slice A n c] w fun e w' => e = .returned (.bool (okS l)) ∧ Below w.heap.size w w' := by
  have hlen := h.len
  have e : okS l = (okFrom ByteArray.empty l && decide (n ≤ 6)) := by unfold okS; rw [hlen]
  have Hl : Hid (okS l = (okFrom ByteArray.empty l && decide (n ≤ 6))) := hide e
  have Hd := hide (fun a i q => @ok_drop l a i q)
  clear e
  generalize okS l = L at *
  obtain ⟨F, hF⟩ : ∃ F, F = okFrom ByteArray.empty l := ⟨_, rfl⟩
  rw [← hF] at Hl
  have HF := hide hF
  have Hlen := hide hlen
  clear hF hlen
  go_enter Tryz.func139, Tryz.ntmps139
  go_wp2
  go_loopw [3, 8] (fun u v wr => ∃ (i : Nat) (a : ByteArray), i ≤ n ∧ u = .string a ∧ v = .int .i64 (i : Int) ∧ Hid (F = okFrom a (l.drop i)) ∧ Below w.heap.size w wr) (fun _ v _ => n - (RowKit.intOf v).toNat)
  case atStart => exact ⟨0, ByteArray.empty, by omega, rfl, rfl, HF, Below.refl _ _⟩
  case round =>
    obtain ⟨i, a, hi, rfl, rfl, hf, hb⟩ := hrel
    by_cases hlt : i < n
    · obtain ⟨ad, q, A', n', c', rfl, hbl, hx, hs, c1, c2⟩ := NdIn.at_ (NdIn.below h hb) hlt
      obtain ⟨hq1, hq2⟩ := hl q (List.mem_of_getElem? hx)
      have hd := hf.out.trans (Hd.out a i q hx)
      obtain ⟨nm, s⟩ := q
      simp only [] at c1 c2 hs hq1 hq2 hd
      have hsl := hs.1
      have HC := hide (fun (wx : World) (hbx : Below wr.heap.size wr wx) => @check_any _ _ c' A' s wx ((hs.below (hbx.mono hb.size)).more (Nat.le_trans hb.size hbx.size)) (Nat.le_refl _) (by omega))
      have HW := hide (fun (wx : World) => follows_any nm a wx (by omega))
      have hbs := hb.size
      rw [hsl] at hd
      have Hd2 := hide hd
      clear hx hf hs hq1 hq2 hd hsl Hd h hl
      generalize (fitL (runes nm 0) && nlt a nm) = y at *
      generalize isSet (-1) s = z at *
      cases y
      · have e : Hid (F = false) := hide (by rw [Hd2.out]; rfl)
        clear Hd2
        go_wp2_with (go_at_call 157
                     refine (HW.out _).mono ?_
                     rintro e w1 ⟨rfl, hb1⟩
                     have hbw := (hb.alloc hbs (.cells #[.string nm, .slice A' n' c'] 60)).trans (hb1.mono (by simp; omega)))
        go_ret
        exact ⟨by rw [Hl.out, e.out]; rfl, hbw⟩
      · cases z
        · have e : Hid (F = false) := hide (by rw [Hd2.out]; simp)
          clear Hd2
          go_wp2_with (first
            | (go_at_call 157
               refine (HW.out _).mono ?_
               rintro e w1 ⟨rfl, hb1⟩
               have hbx := (alloc_b (w := wr) (.cells #[.string nm, .slice A' n' c'] 60)).trans (hb1.mono (by simp))
               have hblk := (Blk.new wr 60 #[.string nm, .slice A' n' c']).below hb1 (by simp)
               have k1 := hblk.cell 0
               have k2 := hblk.cell 1)
            | (go_at_call 158
               refine (HC.out _ hbx).mono ?_
               rintro e w2 ⟨rfl, hb2⟩
               have hbw := hb.trans ((hbx.trans (hb2.mono hbx.size)).mono hbs)))
          go_ret
          exact ⟨by rw [Hl.out, e.out]; rfl, hbw⟩
        · by_cases h6 : n' ≤ 6
          · have e : Hid (F = okFrom nm (l.drop (i + 1))) := hide (by rw [Hd2.out, decide_eq_true h6]; rfl)
            have h6z : ¬ ((6 : Int) < (n' : Int)) := by omega
            clear Hd2
            go_wp2_with (first
              | (go_at_call 157
                 refine (HW.out _).mono ?_
                 rintro e w1 ⟨rfl, hb1⟩
                 have hbx := (alloc_b (w := wr) (.cells #[.string nm, .slice A' n' c'] 60)).trans (hb1.mono (by simp))
                 have hblk := (Blk.new wr 60 #[.string nm, .slice A' n' c']).below hb1 (by simp)
                 have k1 := hblk.cell 0
                 have k2 := hblk.cell 1)
              | (go_at_call 158
                 refine (HC.out _ hbx).mono ?_
                 rintro e w2 ⟨rfl, hb2⟩
                 have hbw := hb.trans ((hbx.trans (hb2.mono hbx.size)).mono hbs)
                 have hblk2 := hblk.below hb2 hblk.lt
                 have k3 := hblk2.cell 0
                 have k4 := hblk2.cell 1))
            go_roundw
            case rel => exact ⟨i + 1, nm, by omega, rfl, by go_num, e, hbw⟩
            case measure => simp [RowKit.intOf]; omega
          · have e : Hid (F = false) := hide (by rw [Hd2.out, decide_eq_false h6]; rfl)
            have h6z : (6 : Int) < (n' : Int) := by omega
            clear Hd2
            go_wp2_with (first
              | (go_at_call 157
                 refine (HW.out _).mono ?_
                 rintro e w1 ⟨rfl, hb1⟩
                 have hbx := (alloc_b (w := wr) (.cells #[.string nm, .slice A' n' c'] 60)).trans (hb1.mono (by simp))
                 have hblk := (Blk.new wr 60 #[.string nm, .slice A' n' c']).below hb1 (by simp)
                 have k1 := hblk.cell 0
                 have k2 := hblk.cell 1)
              | (go_at_call 158
                 refine (HC.out _ hbx).mono ?_
                 rintro e w2 ⟨rfl, hb2⟩
                 have hbw := hb.trans ((hbx.trans (hb2.mono hbx.size)).mono hbs)
                 have hblk2 := hblk.below hb2 hblk.lt
                 have k3 := hblk2.cell 0
                 have k4 := hblk2.cell 1))
            go_ret
            exact ⟨by rw [Hl.out, e.out]; rfl, hbw⟩
    · have hi2 : i = n := by omega
      have e : Hid (F = true) := hide (by rw [hf.out, List.drop_of_length_le (by have := Hlen.out; omega)]; rfl)
      clear hf
      by_cases h6 : n ≤ 6
      · have h6z : (n : Int) ≤ 6 := by omega
        go_wp2
        go_ret
        exact ⟨by rw [Hl.out, e.out, decide_eq_true h6]; rfl, hb⟩
      · have h6z : ¬ (n : Int) ≤ 6 := by omega
        go_wp2
        go_ret
        exact ⟨by rw [Hl.out, e.out, decide_eq_false h6]; rfl, hb⟩
end Go.Proofs.YtdmejcfnolhplaaGreat.Need
/-
  Plain mathematics of manifests: releases, which manifests may be, what is large. No program.
-/
namespace Go.Proofs.YtdmejcfnolhplaaGreat.Mani
open Go.RowKit Go.Lib Go.Proofs.YtdmejcfnolhplaaGreat.Span Go.Proofs.YtdmejcfnolhplaaGreat.Need
open Go.Proofs.YtdmejcfnolhplaaGreat.Label (runes fitL)
set_option linter.unusedVariables false
abbrev Rl := Int × List Nd
def okR : Int → List Rl → Bool
  | _, [] => true
  | a, q :: t => (decide (a < q.1) && (decide (q.1 < 1000000000) && okS q.2)) && okR q.1 t
def okM (nm : ByteArray) (l : List Rl) : Bool := okR (-1) l && (fitL (runes nm 0) && decide (l.length ≤ 8))
theorem okR_drop {l : List Rl} {a : Int} {i : Nat} {q : Rl} (h : l[i]? = some q) : okR a (l.drop i) = ((decide (a < q.1) && (decide (q.1 < 1000000000) && okS q.2)) && okR q.1 (l.drop (i + 1))) := by
  obtain ⟨hi, e⟩ := List.getElem?_eq_some_iff.1 h
  rw [List.drop_eq_getElem_cons hi, e]
  rfl
theorem okR_all {l : List Rl} : ∀ {a : Int}, okR a l = true → ∀ q ∈ l, a < q.1 ∧ q.1 < 1000000000 ∧ okS q.2 = true := by
  induction l with
  | nil => intro a _ q hq; cases hq
  | cons x t ih =>
    intro a h q hq
    simp only [okR, Bool.and_eq_true, decide_eq_true_eq] at h
    obtain ⟨⟨h1, h2, h3⟩, h4⟩ := h
    rcases List.mem_cons.1 hq with rfl | hq
    · exact ⟨h1, h2, h3⟩
    · obtain ⟨g1, g2⟩ := ih h4 q hq
      exact ⟨by omega, g2⟩
def RisesR (l : List Rl) : Prop := l.Pairwise fun x y => x.1 < y.1
theorem okR_rises {l : List Rl} : ∀ {a : Int}, okR a l = true → RisesR l := by
  induction l with
  | nil => intro a _; exact List.Pairwise.nil
  | cons x t ih =>
    intro a h
    simp only [okR, Bool.and_eq_true, decide_eq_true_eq] at h
    exact List.pairwise_cons.2 ⟨fun q hq => (okR_all h.2 q hq).1, ih h.2⟩
theorem okM_parts {nm : ByteArray} {l : List Rl} (h : okM nm l = true) : l.length ≤ 8 ∧ RisesR l ∧ ∀ q ∈ l, 0 ≤ q.1 ∧ q.1 < 1000000000 ∧ okS q.2 = true := by
  simp only [okM, Bool.and_eq_true, decide_eq_true_eq] at h
  refine ⟨h.2.2, okR_rises h.1, fun q hq => ?_⟩
  have := okR_all h.1 q hq
  exact ⟨by omega, this.2⟩
def Fine (l : List Nd) : Prop := l.length ≤ 40 ∧ ∀ q ∈ l, q.1.size ≤ 100 ∧ q.2.length ≤ 40
theorem fine_of {l : List Nd} (h : large l = false) : Fine l := by
  unfold large at h
  simp only [Bool.or_eq_false_iff, decide_eq_false_iff_not, List.any_eq_false] at h
  refine ⟨by omega, fun q hq => ?_⟩
  have := h.2 q hq
  simp only [bigN, Bool.or_eq_true, decide_eq_true_eq, not_or] at this
  omega
def FineR (l : List Rl) : Prop := l.length ≤ 30 ∧ ∀ q ∈ l, Fine q.2
theorem Fine.names {l : List Nd} (h : Fine l) : Names l := fun q hq => by have := h.2 q hq; omega
def getR : List Rl → Int → Option Rl
  | [], _ => none
  | q :: t, v => if q.1 = v then some q else getR t v
theorem getR_drop {l : List Rl} {v : Int} {i : Nat} {q : Rl} (h : l[i]? = some q) : getR (l.drop i) v = if q.1 = v then some q else getR (l.drop (i + 1)) v := by
  obtain ⟨hi, e⟩ := List.getElem?_eq_some_iff.1 h
  rw [List.drop_eq_getElem_cons hi, e]
  rfl
theorem getR_mem {l : List Rl} {v : Int} {q : Rl} (h : getR l v = some q) : q ∈ l ∧ q.1 = v := by
  induction l with
  | nil => cases h
  | cons x t ih =>
    rw [getR] at h
    split at h
    · rename_i e
      injection h with h
      subst h
      exact ⟨by simp, e⟩
    · obtain ⟨h1, h2⟩ := ih h
      exact ⟨List.mem_cons_of_mem _ h1, h2⟩
def inVers (l : List Rl) (p : Int) : Bool := l.any fun q => decide (q.1 = p)
noncomputable def versS (l : List Rl) : List S := nf (inVers l)
theorem inVers_iff {l : List Rl} {p : Int} : inVers l p = true ↔ ∃ q ∈ l, q.1 = p := by simp [inVers]
end Go.Proofs.YtdmejcfnolhplaaGreat.Mani
/-
  Slices of releases in memory: what came in with a call, and what the call makes. No condition.
-/
namespace Go.Proofs.YtdmejcfnolhplaaGreat.Mani
open Go.RowKit Go.Lib Go.Proofs.YtdmejcfnolhplaaGreat.Span Go.Proofs.YtdmejcfnolhplaaGreat.Need
set_option linter.unusedVariables false
theorem info_rel : (Tryz.prog.info? 136).map (fun i => (i.zero, i.size, i.bytes)) = some (some (.agg #[.int .i64 0, .slice none 0 0]), 2, 32) := by kernel_rfl
abbrev Vr := Int × Value
def vcs : List Vr → List Value
  | [] => []
  | r :: t => .int .i64 r.1 :: r.2 :: vcs t
theorem vcs_length (l : List Vr) : (vcs l).length = l.length * 2 := by
  induction l with
  | nil => rfl
  | cons s t ih => simp [vcs, ih]; omega
theorem vcs_append (l m : List Vr) : vcs (l ++ m) = vcs l ++ vcs m := by
  induction l with
  | nil => rfl
  | cons s t ih => simp [vcs, ih]
theorem vcs_one (l : List Vr) (h : ∀ r ∈ l, ∃ A n c, r.2 = .slice A n c) : ∀ u ∈ vcs l, u.oneCell' = true := by
  induction l with
  | nil => intro u hu; cases hu
  | cons s t ih =>
    intro u hu
    simp only [vcs, List.mem_cons] at hu
    rcases hu with rfl | rfl | hu
    · rfl
    · obtain ⟨A, n, c, e⟩ := h s (by simp)
      rw [e]; rfl
    · exact ih (fun r hr => h r (by simp [hr])) u hu
theorem vcs_get (l : List Vr) : ∀ (i : Nat) (r : Vr), l[i]? = some r → (vcs l)[i * 2]? = some (.int .i64 r.1) ∧ (vcs l)[i * 2 + 1]? = some r.2 := by
  induction l with
  | nil => intro i s h; simp at h
  | cons x t ih =>
    intro i s h
    cases i with
    | zero => simp at h; subst h; exact ⟨rfl, rfl⟩
    | succ i =>
      rw [List.getElem?_cons_succ] at h
      have := ih i s h
      rw [show (i + 1) * 2 = i * 2 + 1 + 1 by omega, show i * 2 + 1 + 1 + 1 = (i * 2 + 1) + 1 + 1 by omega]
      exact this
def RFits (w : World) (B : Nat) (rs : List Vr) (l : List Rl) : Prop :=
  rs.length = l.length ∧ ∀ (i : Nat) (r : Vr) (q : Rl), rs[i]? = some r → l[i]? = some q → r.1 = q.1 ∧ ∃ A n c, r.2 = .slice A n c ∧ NdIn w B A n q.2
theorem RFits.below {w w' : World} {B : Nat} {rs : List Vr} {l : List Rl} (h : RFits w B rs l) (hb : Below B w w') : RFits w' B rs l :=
  ⟨h.1, fun i r q hr hq => by
    obtain ⟨e1, A', n', c', e2, hs⟩ := h.2 i r q hr hq
    exact ⟨e1, A', n', c', e2, hs.below hb⟩⟩
theorem RFits.more {w : World} {B B' : Nat} {rs : List Vr} {l : List Rl} (h : RFits w B rs l) (hb : B ≤ B') : RFits w B' rs l :=
  ⟨h.1, fun i r q hr hq => by
    obtain ⟨e1, A', n', c', e2, hs⟩ := h.2 i r q hr hq
    exact ⟨e1, A', n', c', e2, hs.more hb⟩⟩
def RlIn (w : World) (B : Nat) (A : Option Addr) (n : Nat) (l : List Rl) : Prop := ∃ rs, Reads w B 2 A n (vcs rs) ∧ RFits w B rs l
section
variable {w w' : World} {B B' n k : Nat} {A : Option Addr} {l : List Rl}
theorem RlIn.len (h : RlIn w B A n l) : l.length = n := by
  obtain ⟨rs, h1, h2⟩ := h
  have := h1.1
  rw [vcs_length] at this
  have := h2.1
  omega
theorem RlIn.at_ (h : RlIn w B A n l) (hk : k < n) :
    ∃ ad q A' n' c', A = some ad ∧ ad.block < B ∧ l[k]? = some q ∧ NdIn w B A' n' q.2 ∧ w.cell? (ad.add (k * 2)) = some (.int .i64 q.1) ∧ w.cell? ⟨(ad.add (k * 2)).block, (ad.add (k * 2)).off + 1, none⟩ = some (.slice A' n' c') := by
  have hl := h.len
  obtain ⟨rs, h1, h2⟩ := h
  obtain ⟨ad, hA, hb, hc⟩ := h1.2 (by omega)
  have hr : k < rs.length := by rw [h2.1]; omega
  obtain ⟨e1, A', n', c', e2, hs⟩ := h2.2 k rs[k] (l[k]'(by omega)) (by simp) (by simp)
  obtain ⟨g1, g2⟩ := vcs_get rs k rs[k] (by simp)
  refine ⟨ad, l[k]'(by omega), A', n', c', hA, hb, by simp, hs, ?_, ?_⟩
  · rw [← e1]; exact hc _ _ g1
  · rw [← add_field, ← e2]; exact hc _ _ g2
theorem RlIn.below (h : RlIn w B A n l) (hb : Below B w w') : RlIn w' B A n l := by
  obtain ⟨rs, h1, h2⟩ := h
  exact ⟨rs, h1.below hb, h2.below hb⟩
theorem RlIn.more (h : RlIn w B A n l) (hb : B ≤ B') : RlIn w B' A n l := by
  obtain ⟨rs, h1, h2⟩ := h
  exact ⟨rs, h1.more hb, h2.more hb⟩
theorem RlIn.nil (w : World) (B : Nat) (A : Option Addr) : RlIn w B A 0 [] := ⟨[], ⟨rfl, fun h => absurd h (by omega)⟩, rfl, fun i r q hr _ => by simp at hr⟩
end
def RlOn (w : World) (A : Option Addr) (n : Nat) (l : List Rl) : Prop := RlIn w w.heap.size A n l
theorem RlOn.on {w w' : World} {A : Option Addr} {n : Nat} {l : List Rl} (h : RlOn w A n l) (hb : Below w.heap.size w w') : RlOn w' A n l := (RlIn.below h hb).more hb.size
/-! What a call makes. -/
def FarT (w : World) (T : TypeId) (row : Option Nat) : Prop := ∀ (b : Nat) (cur : Array Value) (m : Nat × Nat), w.heap[b]? = some (.cells cur T m) → some b ≠ row
theorem farT_own {w : World} {B size n : Nat} {T T' : TypeId} {v : Value} {xs : List Value} (hown : w.ownsRow B T' size v n xs) (hne : T ≠ T') : FarT w T v.ownBlock := by
  intro b cur m h e
  rcases hown.2 with ⟨rfl, _⟩ | ⟨g, cap, cur', rfl, hB, hgg, _⟩
  · cases e
  · simp only [Value.ownBlock, Option.some.injEq] at e
    rw [e, hgg] at h
    injection h with h
    injection h with _ h _
    exact hne h.symm
theorem farT_blk {w : World} {g : Nat} {T T' : TypeId} {cs : Array Value} (hb : Blk w g T' cs) (hne : T ≠ T') : FarT w T (some g) := by
  intro b cur m h e
  injection e with e
  subst e
  unfold Blk at hb
  rw [hb] at h
  injection h with h
  injection h with _ h _
  exact hne h.symm
theorem own_far {w w' : World} {row : Option Nat} {B size n : Nat} {T : TypeId} {v : Value} {xs : List Value} (h : w.ownsRow B T size v n xs) (hf : FarT w T row) (hg : w.grownBy w' row) : w'.ownsRow B T size v n xs := by
  refine ⟨h.1, ?_⟩
  rcases h.2 with hn | ⟨g, cap, cur, hv, hB, hh, r⟩
  · exact .inl hn
  · exact .inr ⟨g, cap, cur, hv, hB, (hg.block g (Array.getElem?_eq_some_iff.1 hh).1 (hf g cur _ hh)).trans hh, r⟩
theorem insFar {w w' : World} {row : Option Nat} {n : Nat} {A : Option Addr} {l : List S} (h : InS w 0 A n l) (hf : FarT w 67 row) (hg : w.grownBy w' row) : InS w' 0 A n l := by
  refine ⟨⟨h.1.1, fun hn => ?_⟩, fun ad hA hn => ?_⟩
  · obtain ⟨ad, hA, hlt, hc⟩ := h.1.2 hn
    rcases h.2 ad hA hn with h1 | ⟨cur, k, h1⟩
    · omega
    refine ⟨ad, hA, Nat.lt_of_lt_of_le hlt hg.size, fun i s hs => ?_⟩
    obtain ⟨c1, c2⟩ := hc i s hs
    have hb := hg.block _ hlt (hf _ _ _ h1)
    constructor
    · exact (World.cell?_of_block (by rw [block_of_add]; exact hb)).trans c1
    · exact (World.cell?_of_block (by simp only [block_of_add]; exact hb)).trans c2
  · obtain ⟨ad', hA', hlt, hc⟩ := h.1.2 hn
    rw [hA] at hA'
    injection hA' with hA'
    subst hA'
    rcases h.2 ad hA hn with h1 | ⟨cur, k, h1⟩
    · omega
    exact .inr ⟨cur, k, (hg.block _ hlt (hf _ _ _ h1)).trans h1⟩
def InN (w : World) (A : Option Addr) (n : Nat) (l : List Nd) : Prop :=
  ∃ rs, Reads w w.heap.size 2 A n (rcs rs) ∧ AllIn w 0 rs l ∧ ∀ ad, A = some ad → 0 < n → ∃ cur m, w.heap[ad.block]? = some (.cells cur 60 m)
section
variable {w w' w1 : World} {B n m size : Nat} {A : Option Addr} {v v1 : Value} {l : List Nd}
theorem InN.on (h : InN w A n l) : NdOn w A n l := by
  obtain ⟨rs, h1, h2, _⟩ := h
  exact ⟨rs, h1, h2.1, fun i r q hr hq => by
    obtain ⟨e1, A, n, c, e2, hs⟩ := h2.2 i r q hr hq
    exact ⟨e1, A, n, c, e2, hs.1⟩⟩
theorem InN.below (h : InN w A n l) (hb : Below w.heap.size w w') : InN w' A n l := by
  obtain ⟨rs, h1, h2, h3⟩ := h
  refine ⟨rs, (h1.below hb).more hb.size, h2.mono fun _ _ _ hs => hs.below hb, fun ad hA hn => ?_⟩
  obtain ⟨ad', hA', hlt, _⟩ := h1.2 hn
  rw [hA] at hA'
  injection hA' with hA'
  subst hA'
  obtain ⟨cur, k, h4⟩ := h3 ad hA hn
  exact ⟨cur, k, (hb.block _ hlt).trans h4⟩
theorem InN.nil (w : World) : InN w none 0 [] := ⟨[], ⟨rfl, fun h => absurd h (by omega)⟩, ⟨rfl, fun i r q hr _ => by simp at hr⟩, fun ad hA => by cases hA⟩
theorem InN.far {row : Option Nat} (h : InN w A n l) (h1 : FarT w 67 row) (h2 : FarT w 60 row) (hg : w.grownBy w' row) : InN w' A n l := by
  obtain ⟨rs, g1, g2, g3⟩ := h
  have blk : ∀ ad, A = some ad → 0 < n → w'.heap[ad.block]? = w.heap[ad.block]? := fun ad hA hn => by
    obtain ⟨ad', hA', hlt, _⟩ := g1.2 hn
    rw [hA] at hA'
    injection hA' with hA'
    subst hA'
    obtain ⟨cur, k, h4⟩ := g3 ad hA hn
    exact hg.block _ hlt (h2 _ _ _ h4)
  refine ⟨rs, ⟨g1.1, fun hn => ?_⟩, g2.mono fun _ _ _ hs => insFar hs h1 hg, fun ad hA hn => ?_⟩
  · obtain ⟨ad, hA, hlt, hc⟩ := g1.2 hn
    exact ⟨ad, hA, Nat.lt_of_lt_of_le hlt hg.size, fun j u hu => (World.cell?_of_block (by rw [block_of_add]; exact blk ad hA hn)).trans (hc j u hu)⟩
  · obtain ⟨cur, k, h4⟩ := g3 ad hA hn
    exact ⟨cur, k, (blk ad hA hn).trans h4⟩
end
theorem inN_of {w : World} {B n : Nat} {v : Value} {rs : List Rw} {l : List Nd} (h : w.ownsRow B 60 2 v n (rcs rs)) (h2 : AllIn w 0 rs l) : ∃ A c, v = .slice A n c ∧ n ≤ c ∧ InN w A n l := by
  obtain ⟨A, c, rfl, hc, hm, hr⟩ := own_form h
  refine ⟨A, c, rfl, hc, rs, hr, h2, fun ad hA hn => ?_⟩
  rcases h.2 with ⟨e, _⟩ | ⟨g, cap, cur, e, hB, hgg, _⟩
  · injection e with e1 e2 e3
    omega
  · injection e with e1 e2 e3
    rw [hA] at e1
    injection e1 with e1
    subst e1
    exact ⟨cur, _, hgg⟩
def AllN (w : World) (rs : List Vr) (l : List Rl) : Prop :=
  rs.length = l.length ∧ ∀ (i : Nat) (r : Vr) (q : Rl), rs[i]? = some r → l[i]? = some q → r.1 = q.1 ∧ ∃ A n c, r.2 = .slice A n c ∧ InN w A n q.2
section
variable {w w' w1 : World} {B n m : Nat} {v v1 : Value} {rs rs2 : List Vr} {l l2 : List Rl}
theorem AllN.mono (h : AllN w rs l) (hk : ∀ A n s, InN w A n s → InN w' A n s) : AllN w' rs l :=
  ⟨h.1, fun i r q hr hq => by
    obtain ⟨e1, A, n, c, e2, hs⟩ := h.2 i r q hr hq
    exact ⟨e1, A, n, c, e2, hk _ _ _ hs⟩⟩
theorem AllN.append (h : AllN w rs l) (h2 : AllN w rs2 l2) : AllN w (rs ++ rs2) (l ++ l2) :=
  ⟨by simp [h.1, h2.1], fun i r q hr hq => by
    rcases Nat.lt_or_ge i rs.length with hi | hi
    · rw [List.getElem?_append_left hi] at hr
      rw [List.getElem?_append_left (by rw [← h.1]; exact hi)] at hq
      exact h.2 i r q hr hq
    · rw [List.getElem?_append_right hi] at hr
      rw [List.getElem?_append_right (by rw [← h.1]; exact hi), ← h.1] at hq
      exact h2.2 _ r q hr hq⟩
theorem AllN.one {z : Int} {A : Option Addr} {k c : Nat} {s : List Nd} (h : InN w A k s) : AllN w [(z, .slice A k c)] [(z, s)] :=
  ⟨rfl, fun i r q hr hq => by
    rcases i with _ | i
    · simp at hr hq
      subst hr hq
      exact ⟨rfl, A, k, c, rfl, h⟩
    · simp at hr⟩
def Rls (w : World) (B : Nat) (v : Value) (n : Nat) (rs : List Vr) (l : List Rl) : Prop := w.ownsRow B 136 2 v n (vcs rs) ∧ AllN w rs l
theorem Rls.nil_ (w : World) (B : Nat) : Rls w B (.slice none 0 0) 0 [] [] := ⟨World.ownsRow_nil w B _ 2, rfl, fun i r q hr _ => by simp at hr⟩
theorem Rls.below (h : Rls w B v n rs l) (hb : Below w.heap.size w w') : Rls w' B v n rs l := ⟨own_below h.1 hb, h.2.mono fun _ _ _ hs => hs.below hb⟩
theorem Rls.cat (h : Rls w B v n rs l) (h2 : AllN w rs2 l2) (h1 : w1.ownsRow B 136 2 v1 m (vcs rs ++ vcs rs2)) (hg : w.grownBy w1 v.ownBlock) : Rls w1 B v1 m (rs ++ rs2) (l ++ l2) :=
  ⟨by rw [vcs_append]; exact h1, (h.2.append h2).mono fun _ _ _ hs => hs.far (farT_own h.1 (by decide)) (farT_own h.1 (by decide)) hg⟩
theorem Rls.far {row : Option Nat} (h : Rls w B v n rs l) (h1 : FarT w 67 row) (h2 : FarT w 60 row) (h3 : FarT w 136 row) (hg : w.grownBy w' row) : Rls w' B v n rs l :=
  ⟨own_far h.1 h3 hg, h.2.mono fun _ _ _ hs => hs.far h1 h2 hg⟩
theorem Rls.told (h : Rls w B v n rs l) : ∃ A c, v = .slice A n c ∧ n ≤ c ∧ RlOn w A n l := by
  obtain ⟨A, c, rfl, hc, _, hr⟩ := own_form h.1
  exact ⟨A, c, rfl, hc, rs, hr, h.2.1, fun i r q hr hq => by
    obtain ⟨e1, A, n, c, e2, hs⟩ := h.2.2 i r q hr hq
    exact ⟨e1, A, n, c, e2, hs.on⟩⟩
theorem reads_rel (w : World) (z : Int) (A : Option Addr) (n c : Nat) (T : TypeId) (g : Nat) (hg : g = w.heap.size) :
    Reads (w.alloc (.cells #[.int .i64 z, .slice A n c] T)) (w.heap.size + 1) 2 (some ⟨g, 0, none⟩) 1 (vcs [(z, .slice A n c)]) := by
  subst hg
  have h := Reads.newL w T #[.int .i64 z, .slice A n c]
  exact ⟨rfl, fun _ => h.2 (by simp)⟩
theorem one_rel (z : Int) (A : Option Addr) (n c : Nat) : ∀ u ∈ vcs [(z, .slice A n c)], u.oneCell' = true := vcs_one _ fun r hr => by
  rw [List.mem_singleton.1 hr]
  exact ⟨A, n, c, rfl⟩
end
end Go.Proofs.YtdmejcfnolhplaaGreat.Mani
/-
  The contract of the program's Check: which manifests may be. Condition: the slices read as releases whose needs have names and sets of a length that may be walked.
-/
namespace Go.Proofs.YtdmejcfnolhplaaGreat.Mani
open Go.RowKit Go.Lib Go.Proofs.YtdmejcfnolhplaaGreat.Span Go.Proofs.YtdmejcfnolhplaaGreat.Need
open Go.Proofs.YtdmejcfnolhplaaGreat.Label (runes fitL fit_any)
set_option linter.unusedVariables false
set_option maxHeartbeats 4000000 in
theorem checkM_any (nm : ByteArray) (l : List Rl) (A : Option Addr) (n c : Nat) (w : World) (h : RlOn w A n l) (hl : FineR l) (hnm : nm.size ≤ 1000000000) :
    Calls Tryz.prog 98 #[.agg #[.string nm, .slice A n c]] w (Tells w (.bool (okM nm l))) := by
  unfold Tells
  have hlen := h.len
  have hn : n ≤ 30 := by rw [← hlen]; exact hl.1
  have Hl : Hid (okM nm l = (okR (-1) l && (fitL (runes nm 0) && decide (n ≤ 8)))) := hide (by unfold okM; rw [hlen])
  have Hd := hide (fun a i q => @okR_drop l a i q)
  have HF := hide (fun wx => fit_any nm wx (by omega))
  generalize okM nm l = L at *
  generalize fitL (runes nm 0) = y at *
  obtain ⟨F, hF⟩ : ∃ F, F = okR (-1) l := ⟨_, rfl⟩
  rw [← hF] at Hl
  have HF0 := hide hF
  have Hlen := hide hlen
  clear hF hlen hnm
  go_enter Tryz.func98, Tryz.ntmps98
  go_wp2
  go_loopw [3, 9] (fun u v wr => ∃ (i : Nat) (a : Int), i ≤ n ∧ u = .int .i64 a ∧ v = .int .i64 (i : Int) ∧ Hid (F = okR a (l.drop i)) ∧ Blk wr w.heap.size 100 #[.string nm, .slice A n c] ∧ Below w.heap.size w wr) (fun _ v _ => n - (RowKit.intOf v).toNat)
  case atStart => exact ⟨0, -1, by omega, rfl, rfl, HF0, Blk.new _ _ _, (Below.refl _ _).alloc (Nat.le_refl _) _⟩
  case round =>
    obtain ⟨i, a, hi, rfl, rfl, hf, hk, hb⟩ := hrel
    have hbs := hb.size
    by_cases hlt : i < n
    · obtain ⟨ad, q, A', n', c', rfl, hbl, hx, hs, c1, c2⟩ := RlIn.at_ (RlIn.below h hb) hlt
      have hq := hl.2 q (List.mem_of_getElem? hx)
      have hd := hf.out.trans (Hd.out a i q hx)
      obtain ⟨z, s⟩ := q
      simp only [] at c1 c2 hs hq hd
      have hsl := hs.len
      have HC := hide (fun (wx : World) (hbx : Below wr.heap.size wr wx) => @checkN_any s A' n' c' wx ((hs.below (hbx.mono hbs)).more (Nat.le_trans hbs hbx.size)) hq.names (by have := hq.1; omega))
      have Hd2 := hide hd
      clear hx hf hs hq hd hsl Hd h hl
      generalize okS s = v at *
      by_cases h1 : a < z
      · have h1z : ¬ z ≤ a := by omega
        rw [decide_eq_true h1] at Hd2
        by_cases h2 : z < 1000000000
        · have h2z : ¬ (1000000000 : Int) ≤ z := by omega
          rw [decide_eq_true h2] at Hd2
          clear h1 h2
          cases v
          · have e : Hid (F = false) := hide (by rw [Hd2.out]; rfl)
            clear Hd2
            go_wp2_with (go_at_call 139
                         refine (HC.out _ (alloc_b _)).mono ?_
                         rintro e w1 ⟨rfl, hb1⟩
                         have hbw := hb.trans (((alloc_b _).trans (hb1.mono (by simp))).mono hbs))
            go_ret
            exact ⟨by rw [Hl.out, e.out]; rfl, hbw⟩
          · have e : Hid (F = okR z (l.drop (i + 1))) := hide (by rw [Hd2.out]; rfl)
            clear Hd2
            go_wp2_with (go_at_call 139
                         refine (HC.out _ (alloc_b _)).mono ?_
                         rintro e w1 ⟨rfl, hb1⟩
                         have hbw := hb.trans (((alloc_b _).trans (hb1.mono (by simp))).mono hbs)
                         have hk1 := (hk.alloc _).below hb1 (by have := hk.lt; simp; omega)
                         have hblk := (Blk.new wr 136 #[.int .i64 z, .slice A' n' c']).below hb1 (by simp)
                         have k1 := hblk.cell 0)
            go_roundw
            case rel => exact ⟨i + 1, z, by omega, rfl, by go_num, e, hk1, hbw⟩
            case measure => simp [RowKit.intOf]; omega
        · have h2z : (1000000000 : Int) ≤ z := by omega
          have e : Hid (F = false) := hide (by rw [Hd2.out, decide_eq_false h2]; rfl)
          clear Hd2 h1 h2
          go_wp2
          go_ret
          exact ⟨by rw [Hl.out, e.out]; rfl, hb.alloc hbs _⟩
      · have h1z : z ≤ a := by omega
        have e : Hid (F = false) := hide (by rw [Hd2.out, decide_eq_false h1]; rfl)
        clear Hd2 h1
        go_wp2
        go_ret
        exact ⟨by rw [Hl.out, e.out]; rfl, hb.alloc hbs _⟩
    · have hi2 : i = n := by omega
      have e : Hid (F = true) := hide (by rw [hf.out, List.drop_of_length_le (by have := Hlen.out; omega)]; rfl)
      have k0 := hk.cell 0
      have k1 := hk.cell 1
      clear hf
      cases y
      · go_wp2_with (go_at_call 42
                     refine (HF.out _).mono ?_
                     rintro e w1 ⟨rfl, hb1⟩
                     have hbw := hb.trans (hb1.mono hbs))
        go_ret
        exact ⟨by rw [Hl.out, e.out]; rfl, hbw⟩
      · by_cases h6 : n ≤ 8
        · have h6z : (n : Int) ≤ 8 := by omega
          go_wp2_with (go_at_call 42
                       refine (HF.out _).mono ?_
                       rintro e w1 ⟨rfl, hb1⟩
                       have hbw := hb.trans (hb1.mono hbs)
                       have k2 := (hk.below hb1 hk.lt).cell 1)
          go_ret
          exact ⟨by rw [Hl.out, e.out, decide_eq_true h6]; rfl, hbw⟩
        · have h6z : ¬ (n : Int) ≤ 8 := by omega
          go_wp2_with (go_at_call 42
                       refine (HF.out _).mono ?_
                       rintro e w1 ⟨rfl, hb1⟩
                       have hbw := hb.trans (hb1.mono hbs)
                       have k2 := (hk.below hb1 hk.lt).cell 1)
          go_ret
          exact ⟨by rw [Hl.out, e.out, decide_eq_false h6]; show Ending.returned (.bool (decide ((n : Int) ≤ 8))) = _; rw [decide_eq_false (by omega)]; rfl, hbw⟩
end Go.Proofs.YtdmejcfnolhplaaGreat.Mani
/-
  The contract of the document's Check: which needs may be. Condition: the slices read as needs, of at most 1,000,000,001 spans each; names of at most 1,000,000,000 bytes.
-/
namespace Go.Proofs.YtdmejcfnolhplaaGreat.Need
open Go Go.RowKit Go.Lib Go.Proofs.YtdmejcfnolhplaaGreat.Span Go.Proofs.YtdmejcfnolhplaaGreat.Grow
open Go.Proofs.YtdmejcfnolhplaaGreat.Label (runes fitL refFit_any)
set_option linter.unusedVariables false
def Names9 (l : List Nd) : Prop := ∀ q ∈ l, q.1.size ≤ 1000000000 ∧ q.2.length ≤ 1000000001
theorem call_isC_b {f : FuncId} {args : Array Value} {w' : World} {c : Value} (h : Calls Tryz.prog f args w' fun e w'' => e = .returned c ∧ ∃ k, w'' = w'.drewN k) :
    Calls Tryz.prog f args w' fun e w'' => ∃ v, e = .returned v ∧ Below w'.heap.size w' w'' ∧ isC c w'' v :=
  h.mono fun _ _ ⟨he, k, hw⟩ => ⟨_, he, by rw [hw]; exact quiet_b k, rfl⟩
set_option maxHeartbeats 8000000 in
set_option maxRecDepth 100000 in
theorem refCheckN_any (l : List Nd) (A : Option Addr) (n c : Nat) (w : World) (h : NdOn w A n l) (hl : Names9 l) (hn : n ≤ 140737488355328) :
    Calls Tryz.prog 7 #[.slice A n c] w fun e w' => e = .returned (.bool (okS l)) ∧ Below w.heap.size w w' := by
  have hlen := h.len
  have e : okS l = (okFrom ByteArray.empty l && decide (n ≤ 6)) := by unfold okS; rw [hlen]
  have Hl : Hid (okS l = (okFrom ByteArray.empty l && decide (n ≤ 6))) := hide e
  have Hd := hide (fun a i q => @ok_drop l a i q)
  clear e
  generalize okS l = L at *
  obtain ⟨F, hF⟩ : ∃ F, F = okFrom ByteArray.empty l := ⟨_, rfl⟩
  rw [← hF] at Hl
  have HF := hide hF
  have Hlen := hide hlen
  clear hF hlen
  go_enter Tryz.func7, Tryz.ntmps7
  go_wp2
  go_loopw [3] (fun v wr => ∃ (i : Nat) (p : ByteArray), i ≤ n ∧ v = .int .i64 (i : Int) ∧ Hid (i = 0 → p = ByteArray.empty) ∧ Hid (∀ j, i = j + 1 → ∃ q, l[j]? = some q ∧ q.1 = p) ∧ Hid (F = okFrom p (l.drop i)) ∧ Below w.heap.size w wr) (fun v _ => n - (RowKit.intOf v).toNat)
  case atStart => exact ⟨0, ByteArray.empty, by omega, rfl, hide (fun _ => rfl), hide (fun j hj => by omega), HF, Below.refl _ _⟩
  case round =>
    obtain ⟨i, p, hi, rfl, hp0, hp1, hf, hb⟩ := hrel
    by_cases hlt : i < n
    · have hR := NdIn.below h hb
      obtain ⟨ad, q, A', n', c', rfl, hbl, hx, hs, c1, c2⟩ := NdIn.at_ hR hlt
      obtain ⟨hq1, hq2⟩ := hl q (List.mem_of_getElem? hx)
      have hd := hf.out.trans (Hd.out p i q hx)
      have hbs := hb.size
      have q1 := cell_reg_ c1 (by rw [block_of_add]; omega)
      have q2 := cell_reg_ c2 (by simp only [block_of_add]; omega)
      have Hnx := hide (fun j (hj : i + 1 = j + 1) => show ∃ q' : Nd, l[j]? = some q' ∧ q'.1 = q.1 from ⟨q, by rw [← Nat.succ.inj hj]; exact hx, rfl⟩)
      have hi1 : (0 : Int) ≤ (i : Int) := by omega
      have hi2 : (i : Int) < (n : Int) := by omega
      obtain ⟨nm, s⟩ := q
      simp only [] at q1 q2 hs hq1 hq2 hd Hnx
      have hsl := hs.1
      have HC := hide (fun (wx : World) (hbx : Below wr.heap.size wr wx) => @refCheck_any _ _ c' A' s wx (hs.below (hbx.mono hb.size)) (by omega))
      have HW := hide (fun (wx : World) => refFit_any nm wx hq1)
      rw [hsl] at hd
      have Hd2 := hide hd
      have Hemp := hide (fun (g : fitL (runes nm 0) = true) => nlt_empty g)
      have htri := tri nm p
      clear hs hq1 hq2 hd hsl c1 c2
      generalize fitL (runes nm 0) = y at *
      generalize isSet (-1) s = z at *
      cases y
      · have e : Hid (F = false) := hide (by rw [Hd2.out]; rfl)
        clear Hd2 htri Hemp hp1 hR Hnx
        go_upto_region 4 with fail
        refine wp_region_grow [(15, isC (.bool false)), (23, isC (.bool false))] [15, 23]
          (by kernel_rfl) (by kernel_rfl) rfl (by kernel_rfl) (by kernel_rfl) ⟨isC_stable _, isC_stable _, trivial⟩ ?_
        repeat (first
          | (refine lex_skip rfl ?_; simp only [Act.put, List.setIfInBounds_toArray, List.set_cons_zero, List.set_cons_succ])
          | (refine lex_quiet rfl rfl rfl (fun K hK => ?_); unfold Reg; go_big_quiet_op; refine hK _ ?_; clear hK K)
          | (refine lex_rel rfl rfl (fun w' hb9 hK => ?_) (fun v w' hb9 hv => ?_)
             · unfold grows
               go_simp
               first
                 | (go_at_call 23
                    exact call_isC (HW.out w'))
                 | (go_at_call 24
                    exact call_isC_b (HC.out w' hb9))
             obtain rfl := hv
             simp only [Act.put, List.setIfInBounds_toArray, List.set_cons_zero, List.set_cons_succ]))
        refine lex_nil (fun w9 hC9 _ => ?_)
        have hb9 := reg_iff.1 hC9
        clear q1 q2
        go_wp2
        go_ret
        exact ⟨by rw [Hl.out, e.out]; rfl, hb.trans (hb9.mono hbs)⟩
      · cases z
        · have e : Hid (F = false) := hide (by rw [Hd2.out]; simp)
          clear Hd2 htri Hemp hp1 hR Hnx
          go_upto_region 4 with fail
          refine wp_region_grow [(15, isC (.bool true)), (23, isC (.bool false))] [15, 23]
            (by kernel_rfl) (by kernel_rfl) rfl (by kernel_rfl) (by kernel_rfl) ⟨isC_stable _, isC_stable _, trivial⟩ ?_
          repeat (first
            | (refine lex_skip rfl ?_; simp only [Act.put, List.setIfInBounds_toArray, List.set_cons_zero, List.set_cons_succ])
            | (refine lex_quiet rfl rfl rfl (fun K hK => ?_); unfold Reg; go_big_quiet_op; refine hK _ ?_; clear hK K)
            | (refine lex_rel rfl rfl (fun w' hb9 hK => ?_) (fun v w' hb9 hv => ?_)
               · unfold grows
                 go_simp
                 first
                   | (go_at_call 23
                      exact call_isC (HW.out w'))
                   | (go_at_call 24
                      exact call_isC_b (HC.out w' hb9))
               obtain rfl := hv
               simp only [Act.put, List.setIfInBounds_toArray, List.set_cons_zero, List.set_cons_succ]))
          refine lex_nil (fun w9 hC9 _ => ?_)
          have hb9 := reg_iff.1 hC9
          clear q1 q2
          go_wp2
          go_ret
          exact ⟨by rw [Hl.out, e.out]; rfl, hb.trans (hb9.mono hbs)⟩
        · by_cases h6 : 6 < n'
          · have e : Hid (F = false) := hide (by rw [Hd2.out, decide_eq_false (by omega)]; simp)
            have h6z : (6 : Int) < (n' : Int) := by omega
            clear Hd2 htri Hemp hp1 hR Hnx
            go_upto_region 4 with fail
            refine wp_region_grow [(15, isC (.bool true)), (23, isC (.bool true))] [15, 23]
              (by kernel_rfl) (by kernel_rfl) rfl (by kernel_rfl) (by kernel_rfl) ⟨isC_stable _, isC_stable _, trivial⟩ ?_
            repeat (first
              | (refine lex_skip rfl ?_; simp only [Act.put, List.setIfInBounds_toArray, List.set_cons_zero, List.set_cons_succ])
              | (refine lex_quiet rfl rfl rfl (fun K hK => ?_); unfold Reg; go_big_quiet_op; refine hK _ ?_; clear hK K)
              | (refine lex_rel rfl rfl (fun w' hb9 hK => ?_) (fun v w' hb9 hv => ?_)
                 · unfold grows
                   go_simp
                   first
                     | (go_at_call 23
                        exact call_isC (HW.out w'))
                     | (go_at_call 24
                        exact call_isC_b (HC.out w' hb9))
                 obtain rfl := hv
                 simp only [Act.put, List.setIfInBounds_toArray, List.set_cons_zero, List.set_cons_succ]))
            refine lex_nil (fun w9 hC9 _ => ?_)
            have hb9 := reg_iff.1 hC9
            clear q1 q2
            go_wp2
            go_ret
            exact ⟨by rw [Hl.out, e.out]; rfl, hb.trans (hb9.mono hbs)⟩
          · have h6z : ¬ (6 : Int) < (n' : Int) := by omega
            rw [decide_eq_true (show n' ≤ 6 by omega)] at Hd2
            by_cases h0 : i = 0
            · have e : Hid (F = okFrom nm (l.drop (i + 1))) := hide (by rw [Hd2.out, hp0.out h0, Hemp.out (by first | rfl | trivial)]; rfl)
              have h0z : ¬ 0 < i := by omega
              clear Hd2 htri Hemp hp1 hR h0
              go_upto_region 4 with fail
              refine wp_region_grow [(15, isC (.bool true)), (23, isC (.bool true))] [15, 23]
                (by kernel_rfl) (by kernel_rfl) rfl (by kernel_rfl) (by kernel_rfl) ⟨isC_stable _, isC_stable _, trivial⟩ ?_
              repeat (first
                | (refine lex_skip rfl ?_; simp only [Act.put, List.setIfInBounds_toArray, List.set_cons_zero, List.set_cons_succ])
                | (refine lex_quiet rfl rfl rfl (fun K hK => ?_); unfold Reg; go_big_quiet_op; refine hK _ ?_; clear hK K)
                | (refine lex_rel rfl rfl (fun w' hb9 hK => ?_) (fun v w' hb9 hv => ?_)
                   · unfold grows
                     go_simp
                     first
                       | (go_at_call 23
                          exact call_isC (HW.out w'))
                       | (go_at_call 24
                          exact call_isC_b (HC.out w' hb9))
                   obtain rfl := hv
                   simp only [Act.put, List.setIfInBounds_toArray, List.set_cons_zero, List.set_cons_succ]))
              refine lex_nil (fun w9 hC9 _ => ?_)
              have hb9 := reg_iff.1 hC9
              clear q1 q2
              go_wp2
              go_roundw
              case rel => exact ⟨i + 1, nm, by omega, by go_num, hide (fun h => by omega), Hnx, e, hb.trans (hb9.mono hbs)⟩
              case measure => simp [RowKit.intOf]; omega
            · obtain ⟨j, hj⟩ : ∃ j, i = j + 1 := ⟨i - 1, by omega⟩
              obtain ⟨q', hx', hq'⟩ := hp1.out j hj
              obtain ⟨ad', q'', A'', n'', c'', e', _, hx'', _, c1', _⟩ := NdIn.at_ hR (k := j) (by omega)
              injection e' with e'
              subst e'
              rw [hx'] at hx''
              injection hx'' with hx''
              subst hx''
              rw [hq'] at c1'
              have q3 := cell_reg_ c1' (by rw [block_of_add]; omega)
              have h0z : 0 < i := by omega
              have j1 : (0 : Int) ≤ (j : Int) := by omega
              have j2 : (j : Int) < (n : Int) := by omega
              have j3 : IntKind.i64.wrap ((i : Int) - 1) = (j : Int) := by rw [IntKind.wrap_i64]; omega
              have Hj := hide hj
              clear hj hx' hq' c1' hR hp1 Hemp h0
              rcases htri with ⟨f1, f2, f3⟩ | ⟨f1, f2, f3⟩ | ⟨f1, f2, f3⟩
              · have e : Hid (F = false) := hide (by rw [Hd2.out, f2]; simp)
                clear Hd2 f2 Hnx
                go_upto_region 4 with fail
                refine wp_region_grow [(15, isC (.bool true)), (23, isC (.bool true))] [15, 23]
                  (by kernel_rfl) (by kernel_rfl) rfl (by kernel_rfl) (by kernel_rfl) ⟨isC_stable _, isC_stable _, trivial⟩ ?_
                repeat (first
                  | (refine lex_skip rfl ?_; simp only [Act.put, List.setIfInBounds_toArray, List.set_cons_zero, List.set_cons_succ])
                  | (refine lex_quiet rfl rfl rfl (fun K hK => ?_); unfold Reg; go_big_quiet_op; refine hK _ ?_; clear hK K)
                  | (refine lex_rel rfl rfl (fun w' hb9 hK => ?_) (fun v w' hb9 hv => ?_)
                     · unfold grows
                       go_simp
                       first
                         | (go_at_call 23
                            exact call_isC (HW.out w'))
                         | (go_at_call 24
                            exact call_isC_b (HC.out w' hb9))
                     obtain rfl := hv
                     simp only [Act.put, List.setIfInBounds_toArray, List.set_cons_zero, List.set_cons_succ]))
                refine lex_nil (fun w9 hC9 _ => ?_)
                have hb9 := reg_iff.1 hC9
                clear q1 q2
                go_wp2
                go_ret
                exact ⟨by rw [Hl.out, e.out]; rfl, hb.trans (hb9.mono hbs)⟩
              · have e : Hid (F = false) := hide (by rw [Hd2.out, f2]; simp)
                clear Hd2 f2 Hnx
                go_upto_region 4 with fail
                refine wp_region_grow [(15, isC (.bool true)), (23, isC (.bool true))] [15, 23]
                  (by kernel_rfl) (by kernel_rfl) rfl (by kernel_rfl) (by kernel_rfl) ⟨isC_stable _, isC_stable _, trivial⟩ ?_
                repeat (first
                  | (refine lex_skip rfl ?_; simp only [Act.put, List.setIfInBounds_toArray, List.set_cons_zero, List.set_cons_succ])
                  | (refine lex_quiet rfl rfl rfl (fun K hK => ?_); unfold Reg; go_big_quiet_op; refine hK _ ?_; clear hK K)
                  | (refine lex_rel rfl rfl (fun w' hb9 hK => ?_) (fun v w' hb9 hv => ?_)
                     · unfold grows
                       go_simp
                       first
                         | (go_at_call 23
                            exact call_isC (HW.out w'))
                         | (go_at_call 24
                            exact call_isC_b (HC.out w' hb9))
                     obtain rfl := hv
                     simp only [Act.put, List.setIfInBounds_toArray, List.set_cons_zero, List.set_cons_succ]))
                refine lex_nil (fun w9 hC9 _ => ?_)
                have hb9 := reg_iff.1 hC9
                clear q1 q2
                go_wp2
                go_ret
                exact ⟨by rw [Hl.out, e.out]; rfl, hb.trans (hb9.mono hbs)⟩
              · have e : Hid (F = okFrom nm (l.drop (i + 1))) := hide (by rw [Hd2.out, f2]; rfl)
                clear Hd2 f2
                go_upto_region 4 with fail
                refine wp_region_grow [(15, isC (.bool true)), (23, isC (.bool true))] [15, 23]
                  (by kernel_rfl) (by kernel_rfl) rfl (by kernel_rfl) (by kernel_rfl) ⟨isC_stable _, isC_stable _, trivial⟩ ?_
                repeat (first
                  | (refine lex_skip rfl ?_; simp only [Act.put, List.setIfInBounds_toArray, List.set_cons_zero, List.set_cons_succ])
                  | (refine lex_quiet rfl rfl rfl (fun K hK => ?_); unfold Reg; go_big_quiet_op; refine hK _ ?_; clear hK K)
                  | (refine lex_rel rfl rfl (fun w' hb9 hK => ?_) (fun v w' hb9 hv => ?_)
                     · unfold grows
                       go_simp
                       first
                         | (go_at_call 23
                            exact call_isC (HW.out w'))
                         | (go_at_call 24
                            exact call_isC_b (HC.out w' hb9))
                     obtain rfl := hv
                     simp only [Act.put, List.setIfInBounds_toArray, List.set_cons_zero, List.set_cons_succ]))
                refine lex_nil (fun w9 hC9 _ => ?_)
                have hb9 := reg_iff.1 hC9
                clear q1 q2
                go_wp2
                go_roundw
                case rel => exact ⟨i + 1, nm, by omega, by go_num, hide (fun h => by omega), Hnx, e, hb.trans (hb9.mono hbs)⟩
                case measure => simp [RowKit.intOf]; omega
    · have hi2 : i = n := by omega
      have e : Hid (F = true) := hide (by rw [hf.out, List.drop_of_length_le (by have := Hlen.out; omega)]; rfl)
      clear hf
      by_cases h6 : n ≤ 6
      · have h6z : (n : Int) ≤ 6 := by omega
        go_wp2
        go_ret
        exact ⟨by rw [Hl.out, e.out, decide_eq_true h6]; rfl, hb⟩
      · have h6z : ¬ (n : Int) ≤ 6 := by omega
        go_wp2
        go_ret
        exact ⟨by rw [Hl.out, e.out, decide_eq_false h6]; rfl, hb⟩
end Go.Proofs.YtdmejcfnolhplaaGreat.Need
/-
  Contract of the document's Check: which manifests may be. Condition: releases, needs, names and sets of a length that may be walked.
-/
namespace Go.Proofs.YtdmejcfnolhplaaGreat.Mani
open Go Go.RowKit Go.Lib Go.Proofs.YtdmejcfnolhplaaGreat.Span Go.Proofs.YtdmejcfnolhplaaGreat.Need Go.Proofs.YtdmejcfnolhplaaGreat.Grow
open Go.Proofs.YtdmejcfnolhplaaGreat.Label (runes fitL refFit_any)
set_option linter.unusedVariables false
theorem placeFit_any (p : Int) (w : World) : Calls Tryz.prog 34 #[.int .i64 p] w fun e w' => e = .returned (.bool (decide (0 ≤ p) && decide (p < 1000000000))) ∧ w = w' := by
  by_cases h0 : 0 ≤ p
  · by_cases h1 : p < 1000000000
    · rw [decide_eq_true h0, decide_eq_true h1]
      go_enter Tryz.func34, Tryz.ntmps34
      go_wp2
      go_ret
      exact ⟨by simp, rfl⟩
    · rw [decide_eq_true h0, decide_eq_false h1]
      go_enter Tryz.func34, Tryz.ntmps34
      go_wp2
      go_ret
      exact ⟨by simp, rfl⟩
  · rw [decide_eq_false h0]
    go_enter Tryz.func34, Tryz.ntmps34
    go_wp2
    go_ret
    exact ⟨by simp, rfl⟩
theorem Fine.names9 {l : List Nd} (h : Fine l) : Names9 l := fun q hq => by have := h.2 q hq; omega
set_option maxHeartbeats 8000000 in
set_option maxRecDepth 100000 in
theorem refCheckM_any (nm : ByteArray) (l : List Rl) (A : Option Addr) (n c : Nat) (w : World) (h : RlOn w A n l) (hl : FineR l) (hnm : nm.size ≤ 1000000000) :
    Calls Tryz.prog 103 #[.agg #[.string nm, .slice A n c]] w (Tells w (.bool (okM nm l))) := by
  unfold Tells
  have hlen := h.len
  have hn : n ≤ 30 := by rw [← hlen]; exact hl.1
  have Hl : Hid (okM nm l = (okR (-1) l && (fitL (runes nm 0) && decide (n ≤ 8)))) := hide (by unfold okM; rw [hlen])
  have Hd := hide (fun a i q => @okR_drop l a i q)
  have HF := hide (fun wx => refFit_any nm wx hnm)
  generalize okM nm l = L at *
  generalize fitL (runes nm 0) = y at *
  obtain ⟨F, hF⟩ : ∃ F, F = okR (-1) l := ⟨_, rfl⟩
  rw [← hF] at Hl
  have HF0 := hide hF
  have Hlen := hide hlen
  clear hF hlen hnm
  go_enter Tryz.func103, Tryz.ntmps103
  go_wp2
  go_loopw [3] (fun v wr => ∃ (i : Nat) (a : Int), i ≤ n ∧ v = .int .i64 (i : Int) ∧ -1 ≤ a ∧ Hid (i = 0 → a = -1) ∧ Hid (∀ j, i = j + 1 → 0 ≤ a ∧ ∃ q, l[j]? = some q ∧ q.1 = a) ∧ Hid (F = okR a (l.drop i)) ∧ Blk wr w.heap.size 100 #[.string nm, .slice A n c] ∧ Below w.heap.size w wr) (fun v _ => n - (RowKit.intOf v).toNat)
  case atStart => exact ⟨0, -1, by omega, rfl, by omega, hide (fun _ => rfl), hide (fun j hj => by omega), HF0, Blk.new _ _ _, (Below.refl _ _).alloc (Nat.le_refl _) _⟩
  case round =>
    obtain ⟨i, a, hi, rfl, ha, hp0, hp1, hf, hk, hb⟩ := hrel
    have hbs := hb.size
    have m1 := hk.cell 1
    by_cases hlt : i < n
    · have hR := RlIn.below h hb
      obtain ⟨ad, q, A', n', c', rfl, hbl, hx, hs, c1, c2⟩ := RlIn.at_ hR hlt
      have hq := hl.2 q (List.mem_of_getElem? hx)
      have hd := hf.out.trans (Hd.out a i q hx)
      have Hnx := hide (fun j (hj : i + 1 = j + 1) (h0 : 0 ≤ q.1) => show 0 ≤ q.1 ∧ ∃ q' : Rl, l[j]? = some q' ∧ q'.1 = q.1 from ⟨h0, q, by rw [← Nat.succ.inj hj]; exact hx, rfl⟩)
      have hi1 : (0 : Int) ≤ (i : Int) := by omega
      have hi2 : (i : Int) < (n : Int) := by omega
      obtain ⟨z, s⟩ := q
      simp only [] at c1 c2 hs hq hd Hnx
      have hsl := hs.len
      have HC := hide (fun (wx : World) (hbx : Below wr.heap.size wr wx) => refCheckN_any s A' n' c' wx (NdOn.on (hs.more hbs) hbx) hq.names9 (by have := hq.1; omega))
      have HW := hide (fun (wx : World) => placeFit_any z wx)
      have Hd2 := hide hd
      have hpv : ∀ j, i = j + 1 → ∃ A'' n'' c'', wr.cell? (ad.add (j * 2)) = some (.int .i64 a) ∧ 0 ≤ a := fun j hj => by
        obtain ⟨h0, q', hx', hq'⟩ := hp1.out j hj
        obtain ⟨ad', q'', A'', n'', c'', e', _, hx'', _, c1', _⟩ := RlIn.at_ hR (k := j) (by omega)
        injection e' with e'
        subst e'
        rw [hx'] at hx''
        injection hx'' with hx''
        subst hx''
        rw [hq'] at c1'
        exact ⟨A'', n'', c'', c1', h0⟩
      have Hpv := hide hpv
      clear hs hq hd hsl hp1 hR hx hf hpv h hl
      generalize okS s = v at *
      go_upto_region 5 with fail
      obtain ⟨w5, hw5⟩ : ∃ w5, w5 = wr.alloc (.cells #[.int .i64 z, .slice A' n' c'] 136) := ⟨_, rfl⟩
      have hB5 : Blk w5 wr.heap.size 136 #[.int .i64 z, .slice A' n' c'] := by rw [hw5]; exact Blk.new _ _ _
      have hk5 : Blk w5 w.heap.size 100 #[.string nm, .slice (some ad) n c] := by rw [hw5]; exact hk.alloc _
      have hb5' : Below wr.heap.size wr w5 := by rw [hw5]; exact alloc_b _
      have hb5 : Below w.heap.size w w5 := hb.trans (hb5'.mono hbs)
      have hbs5 := hb5.size
      try rw [← hw5]
      clear hw5 m1 c1 c2
      have q1 := cell_reg_ ((hk5.cell 1).trans rfl) hk5.lt
      have q2 := cell_reg_ ((hB5.cell 0).trans rfl) hB5.lt
      have q3 := cell_reg_ ((hB5.cell 1).trans rfl) hB5.lt
      by_cases hy : 0 ≤ z ∧ z < 1000000000
      · have hy1 : (decide (0 ≤ z) && decide (z < 1000000000)) = true := by simp [hy.1, hy.2]
        rw [hy1] at HW
        rw [decide_eq_true hy.2] at Hd2
        cases v
        · have e : Hid (F = false) := hide (by rw [Hd2.out]; simp)
          clear Hd2 Hpv
          refine wp_region_grow [(19, isC (.bool true)), (24, isC (.bool false))] [19, 24]
            (by kernel_rfl) (by kernel_rfl) rfl (by kernel_rfl) (by kernel_rfl) ⟨isC_stable _, isC_stable _, trivial⟩ ?_
          repeat (first
            | (refine lex_skip rfl ?_; simp only [Act.put, List.setIfInBounds_toArray, List.set_cons_zero, List.set_cons_succ])
            | (refine lex_quiet rfl rfl rfl (fun K hK => ?_); unfold Reg; go_big_quiet_op; refine hK _ ?_; clear hK K)
            | (refine lex_rel rfl rfl (fun w' hb9 hK => ?_) (fun v w' hb9 hv => ?_)
               · unfold grows
                 go_simp
                 first
                   | (go_at_call 34
                      exact call_isC_same ((HW.out w').mono fun _ _ ⟨he, hw⟩ => ⟨he, hw⟩))
                   | (go_at_call 7
                      exact call_isC (HC.out w' (hb5'.trans (hb9.mono hb5'.size))))
               obtain rfl := hv
               simp only [Act.put, List.setIfInBounds_toArray, List.set_cons_zero, List.set_cons_succ]))
          refine lex_nil (fun w9 hC9 _ => ?_)
          have hb9 := reg_iff.1 hC9
          clear hC9
          clear q1 q2 q3
          go_wp2
          go_ret
          exact ⟨by rw [Hl.out, e.out]; rfl, hb5.trans (hb9.mono hbs5)⟩
        · by_cases h0 : i = 0
          · have e : Hid (F = okR z (l.drop (i + 1))) := hide (by rw [Hd2.out, hp0.out h0, decide_eq_true (by omega)]; rfl)
            have h0z : ¬ 0 < i := by omega
            have h0y : ¬ (0 : Int) < (i : Int) := by omega
            clear Hd2 Hpv h0
            refine wp_region_grow [(19, isC (.bool true)), (24, isC (.bool true))] [19, 24]
              (by kernel_rfl) (by kernel_rfl) rfl (by kernel_rfl) (by kernel_rfl) ⟨isC_stable _, isC_stable _, trivial⟩ ?_
            repeat (first
              | (refine lex_skip rfl ?_; simp only [Act.put, List.setIfInBounds_toArray, List.set_cons_zero, List.set_cons_succ])
              | (refine lex_quiet rfl rfl rfl (fun K hK => ?_); unfold Reg; go_big_quiet_op; refine hK _ ?_; clear hK K)
              | (refine lex_rel rfl rfl (fun w' hb9 hK => ?_) (fun v w' hb9 hv => ?_)
                 · unfold grows
                   go_simp
                   first
                     | (go_at_call 34
                        exact call_isC_same ((HW.out w').mono fun _ _ ⟨he, hw⟩ => ⟨he, hw⟩))
                     | (go_at_call 7
                        exact call_isC (HC.out w' (hb5'.trans (hb9.mono hb5'.size))))
                 obtain rfl := hv
                 simp only [Act.put, List.setIfInBounds_toArray, List.set_cons_zero, List.set_cons_succ]))
            refine lex_nil (fun w9 hC9 _ => ?_)
            have hb9 := reg_iff.1 hC9
            clear hC9
            clear q1 q2 q3
            have hk9 := hk5.below hb9 hk5.lt
            go_wp2
            go_roundw
            case rel => exact ⟨i + 1, z, by omega, by go_num, by omega, hide (fun h => by omega), hide (fun j hj => Hnx.out j hj hy.1), e, hk9, hb5.trans (hb9.mono hbs5)⟩
            case measure => simp [RowKit.intOf]; omega
          · obtain ⟨j, hj⟩ : ∃ j, i = j + 1 := ⟨i - 1, by omega⟩
            obtain ⟨_, _, _, cp, ha0⟩ := Hpv.out j hj
            have cp5 := (hb5'.cell (p := ad.add (j * 2)) (by rw [block_of_add]; omega)).trans cp
            have q4 := cell_reg_ cp5 (by rw [block_of_add]; omega)
            have h0z : 0 < i := by omega
            have j1 : (0 : Int) ≤ (j : Int) := by omega
            have j2 : (j : Int) < (n : Int) := by omega
            have j3 : IntKind.i64.wrap ((i : Int) - 1) = (j : Int) := by rw [IntKind.wrap_i64]; omega
            have Hj := hide hj
            clear hj Hpv h0 cp cp5
            by_cases haz : a < z
            · have e : Hid (F = okR z (l.drop (i + 1))) := hide (by rw [Hd2.out, decide_eq_true haz]; rfl)
              have haz2 : ¬ z ≤ a := by omega
              clear Hd2
              refine wp_region_grow [(19, isC (.bool true)), (24, isC (.bool true))] [19, 24]
                (by kernel_rfl) (by kernel_rfl) rfl (by kernel_rfl) (by kernel_rfl) ⟨isC_stable _, isC_stable _, trivial⟩ ?_
              repeat (first
                | (refine lex_skip rfl ?_; simp only [Act.put, List.setIfInBounds_toArray, List.set_cons_zero, List.set_cons_succ])
                | (refine lex_quiet rfl rfl rfl (fun K hK => ?_); unfold Reg; go_big_quiet_op; refine hK _ ?_; clear hK K)
                | (refine lex_rel rfl rfl (fun w' hb9 hK => ?_) (fun v w' hb9 hv => ?_)
                   · unfold grows
                     go_simp
                     first
                       | (go_at_call 34
                          exact call_isC_same ((HW.out w').mono fun _ _ ⟨he, hw⟩ => ⟨he, hw⟩))
                       | (go_at_call 7
                          exact call_isC (HC.out w' (hb5'.trans (hb9.mono hb5'.size))))
                   obtain rfl := hv
                   simp only [Act.put, List.setIfInBounds_toArray, List.set_cons_zero, List.set_cons_succ]))
              refine lex_nil (fun w9 hC9 _ => ?_)
              have hb9 := reg_iff.1 hC9
              clear hC9
              clear q1 q2 q3 q4
              have hk9 := hk5.below hb9 hk5.lt
              go_wp2
              go_roundw
              case rel => exact ⟨i + 1, z, by omega, by go_num, by omega, hide (fun h => by omega), hide (fun j hj => Hnx.out j hj hy.1), e, hk9, hb5.trans (hb9.mono hbs5)⟩
              case measure => simp [RowKit.intOf]; omega
            · have e : Hid (F = false) := hide (by rw [Hd2.out, decide_eq_false haz]; rfl)
              have haz2 : z ≤ a := by omega
              clear Hd2
              refine wp_region_grow [(19, isC (.bool true)), (24, isC (.bool true))] [19, 24]
                (by kernel_rfl) (by kernel_rfl) rfl (by kernel_rfl) (by kernel_rfl) ⟨isC_stable _, isC_stable _, trivial⟩ ?_
              repeat (first
                | (refine lex_skip rfl ?_; simp only [Act.put, List.setIfInBounds_toArray, List.set_cons_zero, List.set_cons_succ])
                | (refine lex_quiet rfl rfl rfl (fun K hK => ?_); unfold Reg; go_big_quiet_op; refine hK _ ?_; clear hK K)
                | (refine lex_rel rfl rfl (fun w' hb9 hK => ?_) (fun v w' hb9 hv => ?_)
                   · unfold grows
                     go_simp
                     first
                       | (go_at_call 34
                          exact call_isC_same ((HW.out w').mono fun _ _ ⟨he, hw⟩ => ⟨he, hw⟩))
                       | (go_at_call 7
                          exact call_isC (HC.out w' (hb5'.trans (hb9.mono hb5'.size))))
                   obtain rfl := hv
                   simp only [Act.put, List.setIfInBounds_toArray, List.set_cons_zero, List.set_cons_succ]))
              refine lex_nil (fun w9 hC9 _ => ?_)
              have hb9 := reg_iff.1 hC9
              clear hC9
              clear q1 q2 q3 q4
              go_wp2
              go_ret
              exact ⟨by rw [Hl.out, e.out]; rfl, hb5.trans (hb9.mono hbs5)⟩
      · have hy1 : (decide (0 ≤ z) && decide (z < 1000000000)) = false := by
          rw [Bool.eq_false_iff]; simp; omega
        rw [hy1] at HW
        have e : Hid (F = false) := hide (by
          rw [Hd2.out]
          by_cases h1 : a < z
          · rw [decide_eq_false (show ¬ z < 1000000000 by omega)]; simp
          · rw [decide_eq_false h1]; rfl)
        clear Hd2 Hpv
        refine wp_region_grow [(19, isC (.bool false)), (24, isC (.bool false))] [19, 24]
          (by kernel_rfl) (by kernel_rfl) rfl (by kernel_rfl) (by kernel_rfl) ⟨isC_stable _, isC_stable _, trivial⟩ ?_
        repeat (first
          | (refine lex_skip rfl ?_; simp only [Act.put, List.setIfInBounds_toArray, List.set_cons_zero, List.set_cons_succ])
          | (refine lex_quiet rfl rfl rfl (fun K hK => ?_); unfold Reg; go_big_quiet_op; refine hK _ ?_; clear hK K)
          | (refine lex_rel rfl rfl (fun w' hb9 hK => ?_) (fun v w' hb9 hv => ?_)
             · unfold grows
               go_simp
               first
                 | (go_at_call 34
                    exact call_isC_same ((HW.out w').mono fun _ _ ⟨he, hw⟩ => ⟨he, hw⟩))
                 | (go_at_call 7
                    exact call_isC (HC.out w' (hb5'.trans (hb9.mono hb5'.size))))
             obtain rfl := hv
             simp only [Act.put, List.setIfInBounds_toArray, List.set_cons_zero, List.set_cons_succ]))
        refine lex_nil (fun w9 hC9 _ => ?_)
        have hb9 := reg_iff.1 hC9
        clear hC9
        clear q1 q2 q3
        go_wp2
        go_ret
        exact ⟨by rw [Hl.out, e.out]; rfl, hb5.trans (hb9.mono hbs5)⟩
    · have hi2 : i = n := by omega
      have e : Hid (F = true) := hide (by rw [hf.out, List.drop_of_length_le (by have := Hlen.out; omega)]; rfl)
      have k0 := hk.cell 0
      clear hf
      cases y
      · go_wp2_with (go_at_call 23
                     refine (HF.out _).mono ?_
                     rintro e w1 ⟨rfl, hb1⟩
                     have hbw := hb.trans (hb1.mono hbs))
        go_ret
        exact ⟨by rw [Hl.out, e.out]; rfl, hbw⟩
      · by_cases h6 : n ≤ 8
        · have h6z : (n : Int) ≤ 8 := by omega
          go_wp2_with (go_at_call 23
                       refine (HF.out _).mono ?_
                       rintro e w1 ⟨rfl, hb1⟩
                       have hbw := hb.trans (hb1.mono hbs)
                       have k2 := (hk.below hb1 hk.lt).cell 1)
          go_ret
          exact ⟨by rw [Hl.out, e.out, decide_eq_true h6]; rfl, hbw⟩
        · have h6z : ¬ (n : Int) ≤ 8 := by omega
          go_wp2_with (go_at_call 23
                       refine (HF.out _).mono ?_
                       rintro e w1 ⟨rfl, hb1⟩
                       have hbw := hb.trans (hb1.mono hbs)
                       have k2 := (hk.below hb1 hk.lt).cell 1)
          go_ret
          exact ⟨by rw [Hl.out, e.out, decide_eq_false h6]; show Ending.returned (.bool (decide ((n : Int) ≤ 8))) = _; rw [decide_eq_false (by omega)]; rfl, hbw⟩
end Go.Proofs.YtdmejcfnolhplaaGreat.Mani
