/-
  Some texts of this claim, one behind the other: SpanCells, SpanRead, SpanPut, SpanForm, SpanCheck, SpanSame, SpanRefPut, SpanCutsM, SpanHas, SpanAll, SpanEnds, SpanRefCheck. What each proves, and its condition, stands at its head.
-/
import Derived.Test.YtllogmokadcfmaaGreatZB1
import Derived.Test.YtllogmokadcfmaaGreatZB2
import Derived.Test.YtllogmokadcfmaaGreatChecked
/-
  Slices of spans: what came in with a call, and new ones of the call's own. No condition.
-/
namespace Go.Proofs.YtllogmokadcfmaaGreat.Span
open Go.RowKit
set_option linter.unusedVariables false
theorem info_span : (Tryz.prog.info? 56).map (fun i => (i.zero, i.size, i.bytes)) = some (some (.agg #[.int .i64 0, .int .i64 0]), 2, 16) := by kernel_rfl
theorem info_int : (Tryz.prog.info? 3).map (fun i => (i.zero, i.size, i.bytes)) = some (some (.int .i64 0), 1, 8) := by kernel_rfl
def SpIn (w : World) (B : Nat) (A : Option Addr) (n : Nat) (l : List S) : Prop :=
  l.length = n ∧ (0 < n → ∃ ad, A = some ad ∧ ad.block < B ∧ ∀ i s, l[i]? = some s → w.cell? (ad.add (i * 2)) = some (.int .i64 s.1) ∧ w.cell? ⟨(ad.add (i * 2)).block, (ad.add (i * 2)).off + 1, none⟩ = some (.int .i64 s.2))
theorem add_field (ad : Addr) (k : Nat) : ad.add (k + 1) = ⟨(ad.add k).block, (ad.add k).off + 1, none⟩ := by
  unfold Addr.add
  by_cases h : k = 0 <;> simp [h, Nat.add_assoc]
theorem SpIn.at_ {w : World} {B n k : Nat} {A : Option Addr} {l : List S} (h : SpIn w B A n l) (hk : k < n) :
    ∃ ad s, A = some ad ∧ ad.block < B ∧ l[k]? = some s ∧ w.cell? (ad.add (k * 2)) = some (.int .i64 s.1) ∧ w.cell? ⟨(ad.add (k * 2)).block, (ad.add (k * 2)).off + 1, none⟩ = some (.int .i64 s.2) := by
  obtain ⟨hl, h⟩ := h
  obtain ⟨ad, hA, hb, hc⟩ := h (by omega)
  have hp : l[k]? = some l[k] := by simp
  exact ⟨ad, l[k], hA, hb, hp, (hc k _ hp).1, (hc k _ hp).2⟩
theorem SpIn.below {w w' : World} {B n : Nat} {A : Option Addr} {l : List S} (h : SpIn w B A n l) (hb : Below B w w') : SpIn w' B A n l :=
  ⟨h.1, fun hn => by
    obtain ⟨ad, hA, hbl, hc⟩ := h.2 hn
    refine ⟨ad, hA, hbl, fun i p hp => ?_⟩
    rw [hb.cell (by rw [block_of_add]; exact hbl), hb.cell (p := ⟨(ad.add (i * 2)).block, (ad.add (i * 2)).off + 1, none⟩) (by simp only [block_of_add]; exact hbl)]
    exact hc i p hp⟩
theorem SpIn.more {w : World} {B B' n : Nat} {A : Option Addr} {l : List S} (h : SpIn w B A n l) (hb : B ≤ B') : SpIn w B' A n l :=
  ⟨h.1, fun hn => by
    obtain ⟨ad, hA, hbl, hc⟩ := h.2 hn
    exact ⟨ad, hA, by omega, hc⟩⟩
theorem SpIn.nil (w : World) (B : Nat) (A : Option Addr) : SpIn w B A 0 [] := ⟨rfl, fun h => absurd h (by omega)⟩
def scs : List S → List Value
  | [] => []
  | s :: t => .int .i64 s.1 :: .int .i64 s.2 :: scs t
theorem scs_length (l : List S) : (scs l).length = l.length * 2 := by
  induction l with
  | nil => rfl
  | cons s t ih => simp [scs, ih]; omega
theorem scs_append (l m : List S) : scs (l ++ m) = scs l ++ scs m := by
  induction l with
  | nil => rfl
  | cons s t ih => simp [scs, ih]
theorem scs_one (l : List S) : ∀ u ∈ scs l, u.oneCell' = true := by
  induction l with
  | nil => intro u hu; cases hu
  | cons s t ih =>
    intro u hu
    simp only [scs, List.mem_cons] at hu
    rcases hu with rfl | rfl | hu
    · rfl
    · rfl
    · exact ih u hu
theorem scs_get (l : List S) : ∀ (i : Nat) (s : S), l[i]? = some s → (scs l)[i * 2]? = some (.int .i64 s.1) ∧ (scs l)[i * 2 + 1]? = some (.int .i64 s.2) := by
  induction l with
  | nil => intro i s h; simp at h
  | cons x t ih =>
    intro i s h
    cases i with
    | zero => simp at h; subst h; exact ⟨rfl, rfl⟩
    | succ i =>
      rw [List.getElem?_cons_succ] at h
      have := ih i s h
      rw [show (i + 1) * 2 = i * 2 + 1 + 1 by omega, show i * 2 + 1 + 1 + 1 = (i * 2 + 1) + 1 + 1 by omega]
      exact this
theorem scs_set (l : List S) : ∀ (i : Nat) (s : S), scs (l.set i s) = ((scs l).set (i * 2) (.int .i64 s.1)).set (i * 2 + 1) (.int .i64 s.2) := by
  induction l with
  | nil => intro i s; rfl
  | cons x t ih =>
    intro i s
    cases i with
    | zero => rfl
    | succ i =>
      rw [show (i + 1) * 2 = i * 2 + 1 + 1 by omega, show i * 2 + 1 + 1 + 1 = (i * 2 + 1) + 1 + 1 by omega]
      simp only [List.set_cons_succ, scs, ih]
theorem spIn_of_reads {w : World} {B n : Nat} {A : Option Addr} {l : List S} (h : Reads w B 2 A n (scs l)) : SpIn w B A n l := by
  have hl : l.length = n := by have := h.1; rw [scs_length] at this; omega
  refine ⟨hl, fun hn => ?_⟩
  obtain ⟨ad, hA, hb, hc⟩ := h.2 hn
  refine ⟨ad, hA, hb, fun i s hs => ?_⟩
  obtain ⟨h1, h2⟩ := scs_get l i s hs
  exact ⟨hc _ _ h1, by rw [← add_field]; exact hc _ _ h2⟩
def NewS (w : World) (B : Nat) (A : Option Addr) (n c : Nat) (l : List S) : Prop :=
  n = l.length ∧ n ≤ c ∧ w.ownsRow B 56 2 (.slice A n c) n (scs l) ∧ SpIn w w.heap.size A n l
theorem newS_of_own {w : World} {B n : Nat} {v : Value} {l : List S} (h : w.ownsRow B 56 2 v n (scs l)) : ∃ A c, v = .slice A n c ∧ NewS w B A n c l := by
  obtain ⟨A, c, rfl, hc, hm, hr⟩ := own_form h
  have hn : n = l.length := by have := h.1; rw [scs_length] at this; omega
  exact ⟨A, c, rfl, hn, hc, h, spIn_of_reads hr⟩
theorem NewS.nil_ (w : World) (B : Nat) : NewS w B none 0 0 [] := ⟨rfl, Nat.le_refl _, World.ownsRow_nil w B _ 2, SpIn.nil _ _ _⟩
theorem NewS.below {w w' : World} {B : Nat} {A : Option Addr} {n c : Nat} {l : List S} (h : NewS w B A n c l) (hb : Below w.heap.size w w') : NewS w' B A n c l :=
  ⟨h.1, h.2.1, own_below h.2.2.1 hb, (h.2.2.2.below hb).more hb.size⟩
theorem NewS.less {w : World} {B B' : Nat} {A : Option Addr} {n c : Nat} {l : List S} (h : NewS w B A n c l) (hB : B' ≤ B) : NewS w B' A n c l :=
  ⟨h.1, h.2.1, own_less h.2.2.1 hB, h.2.2.2⟩
theorem NewS.drewN {w : World} {B : Nat} {A : Option Addr} {n c : Nat} {l : List S} (h : NewS w B A n c l) (k : Nat) : NewS (w.drewN k) B A n c l := h
theorem NewS.alloc {w : World} {B : Nat} {A : Option Addr} {n c : Nat} {l : List S} (h : NewS w B A n c l) (o : Obj) : NewS (w.alloc o) B A n c l :=
  h.below ((Below.refl _ _).alloc (Nat.le_refl _) o)
theorem NewS.cells_ {w : World} {B : Nat} {A : Option Addr} {n c : Nat} {l : List S} (h : NewS w B A n c l) (i : Nat) (s : S) (hs : l[i]? = some s) :
    ∃ g, A = some ⟨g, 0, none⟩ ∧ B ≤ g ∧ g < w.heap.size ∧ w.cell? ⟨g, i * 2, none⟩ = some (.int .i64 s.1) ∧ w.cell? ⟨g, i * 2 + 1, none⟩ = some (.int .i64 s.2) ∧
      w.frozen? ⟨g, i * 2, none⟩ = false ∧ w.frozen? ⟨g, i * 2 + 1, none⟩ = false ∧
      (∀ y : Int, NewS (w.setCell ⟨g, i * 2 + 1, none⟩ (.int .i64 y)) B A n c (l.set i (s.1, y))) ∧
      (∀ x y : Int, NewS ((w.setCell ⟨g, i * 2, none⟩ (.int .i64 x)).setCell ⟨g, i * 2 + 1, none⟩ (.int .i64 y)) B A n c (l.set i (x, y))) := by
  obtain ⟨h1, h2, h3, h4⟩ := h
  have hi : i < l.length := (List.getElem?_eq_some_iff.1 hs).1
  rcases h3.2 with ⟨hv, hn⟩ | ⟨g, cap, cur, hv, hB, hg, hnc, hm, hcs, ht⟩
  · omega
  · injection hv with e1 e2 e3
    subst e1 e3
    have hb : Blk w g 56 cur := hg
    obtain ⟨ad, s', hA, _, hs', c1, c2⟩ := h4.at_ (k := i) (by omega)
    injection hA with hA
    subst hA
    rw [hs] at hs'
    injection hs' with hs'
    subst hs'
    have hadd : (⟨g, 0, none⟩ : Addr).add (i * 2) = ⟨g, i * 2, none⟩ := by unfold Addr.add; split <;> simp_all
    rw [hadd] at c1 c2
    have key : ∀ (w' : World) (cs' : Array Value) (l' : List S), Blk w' g 56 cs' → cs'.size = c * 2 → l'.length = l.length → cs'.toList.take (n * 2) = scs l' → NewS w' B (some ⟨g, 0, none⟩) n c l' := by
      intro w' cs' l' hb2 hz hl ht2
      have hown : w'.ownsRow B 56 2 (.slice (some ⟨g, 0, none⟩) n c) n (scs l') := ⟨by rw [scs_length]; omega, .inr ⟨g, c, cs', rfl, hB, hb2, h2, hm, hz, ht2⟩⟩
      obtain ⟨A', c', e, hN⟩ := newS_of_own hown
      injection e with e1 _ e3
      subst e1 e3
      exact hN
    refine ⟨g, rfl, hB, hb.lt, c1, c2, hb.frozen _, hb.frozen _, fun y => ?_, fun x y => ?_⟩
    · refine key _ _ _ (hb.set_ (i * 2 + 1) (.int .i64 y)) (by simpa using hcs) (by simp) ?_
      have e : (scs l).set (i * 2) (.int .i64 s.1) = scs l := by
        obtain ⟨hlt, e⟩ := List.getElem?_eq_some_iff.1 (scs_get l i s hs).1
        rw [← e]
        exact List.set_getElem_self hlt
      rw [scs_set, e, ← ht]
      simp [List.take_set]
    · refine key _ _ _ ((hb.set_ (i * 2) (.int .i64 x)).set_ (i * 2 + 1) (.int .i64 y)) (by simpa using hcs) (by simp) ?_
      rw [scs_set, ← ht]
      simp [List.take_set]
end Go.Proofs.YtllogmokadcfmaaGreat.Span
/-
  Contracts of what tells of spans and writes nothing that was there: told, the closures, edge, passed, Has, Count, Least, Most, the document's own ones. Condition: the slice reads as spans.
-/
namespace Go.Proofs.YtllogmokadcfmaaGreat.Span
open Go.RowKit Go.Lib
set_option linter.unusedVariables false
theorem meet1_any (x y : Bool) (w : World) : Calls Tryz.prog 89 #[.bool x, .bool y] w fun e w' => e = .returned (.bool (x && y)) ∧ w = w' := by
  cases x <;> cases y <;> (
    go_enter Tryz.func89, Tryz.ntmps89
    go_wp2
    go_ret
    exact ⟨rfl, rfl⟩)
theorem within1_any (x y : Bool) (w : World) : Calls Tryz.prog 90 #[.bool x, .bool y] w fun e w' => e = .returned (.bool (x && !y)) ∧ w = w' := by
  cases x <;> cases y <;> (
    go_enter Tryz.func90, Tryz.ntmps90
    go_wp2
    go_ret
    exact ⟨rfl, rfl⟩)
def toldM (op : Int) (x y : Bool) : Bool := if op = 0 then x || y else if op = 1 then x && y else !x
theorem told_any (op : Int) (x y : Bool) (w : World) : Calls Tryz.prog 114 #[.int .i64 op, .bool x, .bool y] w fun e w' => e = .returned (.bool (toldM op x y)) ∧ w = w' := by
  unfold toldM
  by_cases h0 : op = 0
  · subst h0
    cases x <;> cases y <;> (
      go_enter Tryz.func114, Tryz.ntmps114
      go_wp2
      go_ret
      exact ⟨rfl, rfl⟩)
  · by_cases h1 : op = 1
    · subst h1
      cases x <;> cases y <;> (
        go_enter Tryz.func114, Tryz.ntmps114
        go_wp2
        go_ret
        exact ⟨rfl, rfl⟩)
    · cases x <;> cases y <;> (
        go_enter Tryz.func114, Tryz.ntmps114
        go_wp2
        go_ret
        exact ⟨rfl, rfl⟩)
set_option maxHeartbeats 1000000 in
theorem edge_any {B n c : Nat} {A : Option Addr} {l : List S} (k : Nat) (w : World) (h : SpIn w B A n l) (hn : n ≤ 1000000001) (hk : k ≤ 2 * n) :
    Calls Tryz.prog 107 #[.slice A n c, .int .i64 (k : Int)] w fun e w' => e = .returned (.int .i64 (edge l k)) ∧ w = w' := by
  have hl : l.length = n := h.1
  by_cases h1 : k = 2 * n
  · have e : edge l k = 1000000000 := by subst h1; rw [← hl]; exact edge_top l
    rw [e]
    have g1 : ((k : Int) == (n : Int) * 2) = true := by simp; omega
    have g2 : ((k : Int) == 2 * (n : Int)) = true := by simp; omega
    clear e
    go_enter Tryz.func107, Tryz.ntmps107
    go_wp2
    go_ret
    exact ⟨rfl, rfl⟩
  · obtain ⟨ad, s, rfl, hb, hs, c1, c2⟩ := h.at_ (k := k / 2) (by omega)
    have e : edge l k = if k % 2 = 0 then s.1 else s.2 := by
      unfold edge
      rw [hl, if_neg h1, hs]; rfl
    rw [e]
    obtain ⟨m, hm⟩ : ∃ m, m = k / 2 := ⟨_, rfl⟩
    rw [← hm] at c1 c2
    by_cases h2 : k % 2 = 0
    · rw [if_pos h2]
      have hk2 : k = 2 * m := by omega
      subst hk2
      clear hm e h2
      go_enter Tryz.func107, Tryz.ntmps107
      go_wp2
      go_ret
      exact ⟨rfl, rfl⟩
    · rw [if_neg h2]
      have hk2 : k = 2 * m + 1 := by omega
      subst hk2
      rw [hm] at c1 c2
      clear hm e h2
      go_enter Tryz.func107, Tryz.ntmps107
      go_wp2
      go_ret
      exact ⟨rfl, rfl⟩
set_option maxHeartbeats 1000000 in
theorem passed_any {B n c : Nat} {A : Option Addr} {l : List S} (k : Nat) (p : Int) (w : World) (h : SpIn w B A n l) (hn : n ≤ 1000000001) (hp : p < 1000000000) (hk : Past l p k) :
    Calls Tryz.prog 106 #[.slice A n c, .int .i64 (k : Int), .int .i64 p] w fun e w' => (∃ m : Nat, e = .returned (.int .i64 (m : Int)) ∧ Past l p m ∧ p < edge l m) ∧ w = w' := by
  have hl : l.length = n := h.1
  go_enter Tryz.func106, Tryz.ntmps106
  go_wp2
  go_loopw [1] (fun v wr => ∃ (m : Nat), v = .int .i64 (m : Int) ∧ Past l p m ∧ w = wr) (fun v _ => 2 * n - (intOf v).toNat)
  case atStart => exact ⟨k, rfl, hk, rfl⟩
  case round =>
    obtain ⟨m, rfl, hm, rfl⟩ := hrel
    have hm1 : m ≤ 2 * n := by rw [← hl]; exact hm.1
    have He := hide (@edge_any B n c A l m w h hn hm1)
    have Hs := hide (fun hx => hm.succ hx hp)
    have Hm := hide hm
    obtain ⟨q, hq⟩ : ∃ q, q = edge l m := ⟨_, rfl⟩
    rw [← hq] at He Hs
    have Hq := hide hq
    clear hm hk hq
    by_cases hc : q ≤ p
    · go_wp2_with (go_at_call 107; refine He.out.mono ?_; rintro e w1 ⟨rfl, rfl⟩)
      have hs := Hs.out hc
      have h2 := hs.1
      go_roundw
      case rel => exact ⟨m + 1, by go_num, hs, trivial⟩
      case measure => simp [intOf]; omega
    · go_wp2_with (go_at_call 107; refine He.out.mono ?_; rintro e w1 ⟨rfl, rfl⟩)
      go_ret
      exact ⟨⟨m, rfl, Hm.out, by rw [← Hq.out]; omega⟩, rfl⟩
end Go.Proofs.YtllogmokadcfmaaGreat.Span
/-
  The contract of the program's put: a new set of the call's own, and a span that begins no lower than its last one. Condition: fewer than 1,000,000 spans.
-/
namespace Go.Proofs.YtllogmokadcfmaaGreat.Span
open Go.RowKit Go.Lib
set_option linter.unusedVariables false
theorem reads_one (w : World) (x y : Int) (g : Nat) (hg : g = w.heap.size) : Reads (w.alloc (.cells #[.int .i64 x, .int .i64 y] 56)) (g + 1) 2 (some ⟨g, 0, none⟩) 1 (scs [(x, y)]) := by
  subst hg
  have h := Reads.newL w 56 #[.int .i64 x, .int .i64 y]
  refine ⟨rfl, fun _ => ?_⟩
  exact h.2 (by simp)
set_option maxHeartbeats 2000000 in
set_option maxRecDepth 100000 in
theorem put_any {B n c : Nat} {A : Option Addr} {l : List S} (x y : Int) (w : World) (h : NewS w B A n c l) (hB : B ≤ w.heap.size) (hn : n ≤ 1000000001) :
    Calls Tryz.prog 86 #[.slice A n c, .agg #[.int .i64 x, .int .i64 y]] w fun e w' => ∃ A' n' c', e = .returned (.slice A' n' c') ∧ NewS w' B A' n' c' (put l (x, y)) ∧ Below B w w' := by
  obtain ⟨i0, hi0, hz0, hz1, hz2⟩ := info_parts info_span
  have hl : n = l.length := h.1
  rcases List.eq_nil_or_concat l with he | ⟨a, t, he⟩
  · subst he
    have hn0 : n = 0 := by simpa using hl
    subst hn0
    have hown := h.2.2.1
    clear hl hn h
    go_enter Tryz.func86, Tryz.ntmps86
    go_upto_region 2 with fail
    go_quiet (fail)
    go_wp2_with (at_builtin
                 refine wpList_append_any _ rfl (.tmp 21) (.tmp 23) _ rfl B 56 i0 _ 2 16 Tryz.underlying36 hi0 hz0 hz1 hz2 rfl (by omega) _ _ _ rfl
                   (own_below hown ?_) _ _ 1 _ _ rfl (reads_one _ x y _ (by simp)) (scs_one _) (by unfold maxLen; omega) (by omega) (by simp; omega) ?_
                 · exact ((below_drewN ((Below.refl _ _).alloc (Nat.le_refl _) _) _).alloc (by simp) _)
                 intro v1 w1 hown2 hg1 hat1
                 have hb2 : Below B w w1 := (((below_drewN ((Below.refl _ _).alloc hB _) _).alloc (by simp; omega) _).grown hg1 (by simp; omega) (fun k hk => (hown.lt k hk).1)))
    go_ret
    rw [Nat.zero_add, ← scs_append] at hown2
    obtain ⟨A', c', rfl, hN⟩ := newS_of_own hown2
    exact ⟨A', _, c', rfl, by rw [put_nil]; exact hN, hb2⟩
  · rw [List.concat_eq_append] at he
    subst he
    obtain ⟨m, rfl⟩ : ∃ m, n = m + 1 := ⟨a.length, by rw [hl]; simp⟩
    have hm : m = a.length := by simpa using hl
    have hat : (a ++ [t])[m]? = some t := by rw [hm]; simp
    obtain ⟨g, rfl, hBg, hgl, c1, c2, f1, f2, _, _⟩ := h.cells_ m t hat
    have hown := h.2.2.1
    have hput := hide (put_snoc a t (x, y))
    have hs2 : (a ++ [t]).set m (t.1, max t.2 y) = a ++ [(t.1, max t.2 y)] := by rw [hm]; simp
    obtain ⟨p, q⟩ := t
    simp only [] at *
    clear hl hm
    have hadd : (⟨g, 0, none⟩ : Addr).add (m * 2) = ⟨g, m * 2, none⟩ := by unfold Addr.add; split <;> simp_all
    have d0 : decide ((m : Int) < 0) = false := decide_eq_false (by omega)
    have d1 : (m : Int) < (m : Int) + 1 := by omega
    have d2 : (0 : Int) ≤ (m : Int) := by omega
    by_cases hc : q < x
    · rw [if_pos hc] at hput
      have hput2 := hput
      go_enter Tryz.func86, Tryz.ntmps86
      go_upto_region 2 with fail
      go_quiet (fail)
      go_wp2_with (at_builtin
                   refine wpList_append_any _ rfl (.tmp 21) (.tmp 23) _ rfl B 56 i0 _ 2 16 Tryz.underlying36 hi0 hz0 hz1 hz2 rfl (by omega) _ _ _ rfl
                     (own_below hown ?_) _ _ 1 _ _ rfl (reads_one _ x y _ (by simp)) (scs_one _) (by unfold maxLen; omega) (by omega) (by simp; omega) ?_
                   · exact ((below_drewN ((Below.refl _ _).alloc (Nat.le_refl _) _) _).alloc (by simp) _)
                   intro v1 w1 hown2 hg1 hat1
                   have hb2 : Below B w w1 := (((below_drewN ((Below.refl _ _).alloc hB _) _).alloc (by simp; omega) _).grown hg1 (by simp; omega) (fun k hk => (hown.lt k hk).1)))
      go_ret
      rw [← scs_append] at hown2
      obtain ⟨A', c', rfl, hN⟩ := newS_of_own hown2
      exact ⟨A', _, c', rfl, by rw [hput.out]; exact hN, hb2⟩
    · rw [if_neg hc] at hput
      have hmx := hide (show ∀ z, z = max q y → (a ++ [(p, q)]).set m (p, z) = put (a ++ [(p, q)]) (x, y) by intro z hz; rw [hz, hput.out]; exact hs2)
      clear hput hs2
      have d3 : q ≥ x := by omega
      go_enter Tryz.func86, Tryz.ntmps86
      go_upto_region 2 with fail
      go_quiet (fail)
      go_upto_region 4 with fail
      go_region
      have hz : (if q < y then y else q) = max q y := by split <;> omega
      have hmy := hmx.out _ hz
      generalize (if q < y then y else q) = z at *
      obtain ⟨g', e', _, _, _, _, _, _, hset, _⟩ := ((h.alloc (.cells #[.int .i64 x, .int .i64 y] 56)).drewN (nq + 1)).cells_ m (p, q) hat
      injection e' with e'
      injection e' with e'
      subst e'
      have hfin := hset z
      simp only [] at hfin
      rw [hmy] at hfin
      clear hset hmx hmy hz
      go_wp2_with fail
      go_ret
      exact ⟨_, _, _, rfl, hfin, (below_drewN ((Below.refl _ _).alloc hB _) _).setCell hBg _⟩
end Go.Proofs.YtllogmokadcfmaaGreat.Span
/-
  The form of layer 6's contracts: a slice that reads as spans in the world at hand; a call that makes such a slice, a call that tells a value. No condition.
-/
namespace Go.Proofs.YtllogmokadcfmaaGreat.Span
open Go Go.RowKit Go.Lib
set_option linter.unusedVariables false
def SpOn (w : World) (A : Option Addr) (n : Nat) (l : List S) : Prop := SpIn w w.heap.size A n l
theorem SpOn.on {w w' : World} {A : Option Addr} {n : Nat} {l : List S} (h : SpOn w A n l) (hb : Below w.heap.size w w') : SpOn w' A n l := (SpIn.below h hb).more hb.size
theorem spOn_of {w : World} {A : Option Addr} {n : Nat} {l : List S} (h : RowOf (liePair (lieInt .i64) (lieInt .i64)) w w.heap.size A n l) : SpOn w A n l :=
  ⟨h.1, fun hn => by
    obtain ⟨ad, hA, hB, hc⟩ := h.2 hn
    refine ⟨ad, hA, hB, fun i p hp => ?_⟩
    obtain ⟨cs, h1, c1, c2, e, ⟨e1, _⟩, ⟨e2, _⟩⟩ := hc i p hp
    subst e e1 e2
    have x0 := h1 0 (by simp)
    have x1 := h1 1 (by simp)
    rw [add_of_add] at x0 x1
    rw [← add_field]
    exact ⟨by simpa [liePair, lieInt] using x0, by simpa [liePair, lieInt] using x1⟩⟩
section
variable {A A' : Option Addr} {n c n' c' : Nat} {l m : List S} {w : World}
theorem SpOn.len (h : SpOn w A n l) : n = l.length := h.1.symm
theorem quiet_b {w : World} (k : Nat) : Below w.heap.size w (w.drewN k) := below_drewN (Below.refl _ _) k
def Tells (w : World) (v : Value) (e : Ending) (w' : World) : Prop := e = .returned v ∧ Below w.heap.size w w'
theorem tells_same {f : FuncId} {args : Array Value} {v : Value} (h : Calls Tryz.prog f args w fun e w' => e = .returned v ∧ w = w') : Calls Tryz.prog f args w (Tells w v) :=
  h.mono fun _ _ ⟨he, hw⟩ => ⟨he, by subst hw; exact Below.refl _ _⟩
theorem tells_drew {f : FuncId} {args : Array Value} {v : Value} (h : Calls Tryz.prog f args w fun e w' => e = .returned v ∧ ∃ k, w' = w.drewN k) : Calls Tryz.prog f args w (Tells w v) :=
  h.mono fun _ _ ⟨he, k, hw⟩ => ⟨he, by subst hw; exact quiet_b k⟩
end
theorem alloc_b {w : World} (o : Obj) : Below w.heap.size w (w.alloc o) := (Below.refl _ _).alloc (Nat.le_refl _) o
end Go.Proofs.YtllogmokadcfmaaGreat.Span
/-
  Contracts of Check, the program's and the document's: whether spans are a set. Condition: the slice reads as spans.
-/
namespace Go.Proofs.YtllogmokadcfmaaGreat.Span
open Go.RowKit Go.Lib
set_option linter.unusedVariables false
theorem set_step {l : List S} {i : Nat} {s : S} {e r : Int} {b : Bool} (h : l[i]? = some s) (hb : b = isSet e (l.drop i)) :
    b = (decide (e < s.1) && decide (s.1 < s.2) && decide (s.2 ≤ 1000000000) && isSet s.2 (l.drop (i + 1))) := by
  have hi : i < l.length := (List.getElem?_eq_some_iff.1 h).1
  have hd : l.drop i = s :: l.drop (i + 1) := by
    rw [List.drop_eq_getElem_cons hi]
    rw [(List.getElem?_eq_some_iff.1 h).2]
  rw [hb, hd]; rfl
set_option maxHeartbeats 1000000 in
theorem check_any {B n c : Nat} {A : Option Addr} {l : List S} (w : World) (h : SpIn w B A n l) (hB : B ≤ w.heap.size) (hn : n ≤ 1000000001) :
    Calls Tryz.prog 68 #[.slice A n c] w fun e w' => e = .returned (.bool (isSet (-1) l)) ∧ Below w.heap.size w w' := by
  have hl : l.length = n := h.1
  obtain ⟨r, hr⟩ : ∃ r, r = isSet (-1) l := ⟨_, rfl⟩
  rw [← hr]
  have Hr := hide hr
  clear hr
  go_enter Tryz.func68, Tryz.ntmps68
  go_wp2
  go_loopw [3, 8] (fun u v wr => ∃ (i : Nat) (e : Int), i ≤ n ∧ u = .int .i64 e ∧ v = .int .i64 (i : Int) ∧ Hid (r = isSet e (l.drop i)) ∧ Below w.heap.size w wr) (fun _ v _ => n - (intOf v).toNat)
  case atStart => exact ⟨0, -1, by omega, rfl, rfl, Hr, Below.refl _ _⟩
  case round =>
    obtain ⟨i, e, hi, rfl, rfl, hf, hb⟩ := hrel
    by_cases hlt : i < n
    · obtain ⟨ad, s, rfl, hbl, hx, c1, c2⟩ := (h.below (hb.mono hB)).at_ hlt
      have hst := hide (@set_step l i s e 0 r hx hf.out)
      obtain ⟨x, y⟩ := s
      simp only [] at hst c1 c2
      clear hx hf Hr
      by_cases g1 : x ≤ e
      · have e2 := hide (show r = false by rw [hst.out, decide_eq_false (show ¬ e < x by omega)]; rfl)
        clear hst
        go_wp2
        go_ret
        exact ⟨by rw [e2.out]; rfl, hb.alloc hb.size _⟩
      · by_cases g2 : y ≤ x
        · have e2 := hide (show r = false by rw [hst.out, decide_eq_false (show ¬ x < y by omega), Bool.and_false]; rfl)
          clear hst
          go_wp2
          go_ret
          exact ⟨by rw [e2.out]; rfl, hb.alloc hb.size _⟩
        · by_cases g3 : y > 1000000000
          · have e2 := hide (show r = false by rw [hst.out, decide_eq_false (show ¬ y ≤ 1000000000 by omega), Bool.and_false]; rfl)
            clear hst
            go_wp2
            go_ret
            exact ⟨by rw [e2.out]; rfl, hb.alloc hb.size _⟩
          · have e2 := hide (show r = isSet y (l.drop (i + 1)) by rw [hst.out, decide_eq_true (show e < x by omega), decide_eq_true (show x < y by omega), decide_eq_true (show y ≤ 1000000000 by omega)]; rfl)
            clear hst
            go_wp2
            go_roundw
            case rel => exact ⟨i + 1, y, by omega, rfl, by go_num, e2, hb.alloc hb.size _⟩
            case measure => simp [intOf]; omega
    · have hi2 : i = n := by omega
      subst hi2
      have e2 : r = true := by rw [hf.out, List.drop_of_length_le (by omega)]; rfl
      have E2 := hide e2
      clear hf Hr e2
      go_wp2
      go_ret
      exact ⟨by rw [E2.out]; rfl, hb⟩
end Go.Proofs.YtllogmokadcfmaaGreat.Span
/-
  Contracts of Same, the program's (over the library's Equal) and the document's: whether two lists are alike. Condition: the slices read as spans.
-/
namespace Go.Proofs.YtllogmokadcfmaaGreat.Span
open Go.RowKit Go.Lib
set_option linter.unusedVariables false
def same2 (a b c d : Int) : Bool := (a == c) && (b == d)
set_option maxRecDepth 100000 in
theorem eq_span (a b c d : Int) (w : World) : (Op.equalIn 10000 56 (.agg #[.int .i64 a, .int .i64 b]) (.agg #[.int .i64 c, .int .i64 d])).run Tryz.prog w = .ok (same2 a b c d) w := by
  have hf : Tryz.prog.underlying 56 = some (.struct (Tryz.prog.fieldsOf 56)) := by kernel_rfl
  have hs : Tryz.prog.stoodInHeld 56 = false := by kernel_rfl
  have hl := hf.symm.trans Tryz.underlying56
  injection hl with hl
  injection hl with hl
  have ha : ∀ w, (isAgg 3).run Tryz.prog w = .ok false w := Tryz.isAgg3
  rw [run_equalIn_struct w 9999 _ _ _ hf hs, hl]
  unfold same2
  cases hx : (a == c) <;> cases hy : (b == d) <;>
    simp [Op.eqFields, part, ha, run_equalIn_int _ 9998 3 .i64 .i64 _ _ Tryz.underlying3, hx, hy]
theorem same2_iff (s t : S) : same2 s.1 s.2 t.1 t.2 = decide (s = t) := by
  unfold same2
  rw [Bool.eq_iff_iff]
  simp [Prod.ext_iff]
theorem same_snoc {l m : List S} {i : Nat} {s t : S} (h : l.take i = m.take i) (h1 : l[i]? = some s) (h2 : m[i]? = some t) (h3 : s = t) : l.take (i + 1) = m.take (i + 1) := by
  rw [List.take_add_one, List.take_add_one, h, h1, h2, h3]
theorem same_ne {l m : List S} {i : Nat} {s t : S} (h1 : l[i]? = some s) (h2 : m[i]? = some t) (h3 : ¬ s = t) : decide (l = m) = false := by
  refine decide_eq_false fun e => ?_
  subst e
  rw [h1] at h2
  injection h2 with h2
  exact h3 h2
set_option maxHeartbeats 1000000 in
theorem refSame_any {B n c B' n' c' : Nat} {A A' : Option Addr} {l m : List S} (w : World) (h : SpIn w B A n l) (h' : SpIn w B' A' n' m) (hn : n ≤ 1000000001) (hn' : n' ≤ 1000000001) :
    Calls Tryz.prog 48 #[.slice A n c, .slice A' n' c'] w fun e w' => e = .returned (.bool (decide (l = m))) ∧ ∃ k, w' = w.drewN k := by
  have hl : l.length = n := h.1
  have hm : m.length = n' := h'.1
  have heq := eq_span
  obtain ⟨r, hr⟩ : ∃ r, r = decide (l = m) := ⟨_, rfl⟩
  rw [← hr]
  have Hr := hide hr
  clear hr
  by_cases hnn : n = n'
  · subst hnn
    go_enter Tryz.func48, Tryz.ntmps48
    go_wp2
    go_loopw [5] (fun v wr => ∃ (i : Nat), i ≤ n ∧ v = .int .i64 (i : Int) ∧ Hid (l.take i = m.take i) ∧ ∃ k, wr = w.drewN k) (fun v _ => n - (intOf v).toNat)
    case atStart => exact ⟨0, by omega, rfl, hide rfl, 0, rfl⟩
    case round =>
      obtain ⟨i, hi, rfl, hf, k, rfl⟩ := hrel
      by_cases hlt : i < n
      · obtain ⟨ad, s, rfl, hbl, hx, c1, c2⟩ := h.at_ hlt
        obtain ⟨ad', t, rfl, hbl', hx', c1', c2'⟩ := h'.at_ hlt
        have hsn := hide (@same_snoc l m i s t hf.out hx hx')
        have hne := hide (@same_ne l m i s t hx hx')
        have hsi := hide (same2_iff s t)
        obtain ⟨x, y⟩ := s
        obtain ⟨x', y'⟩ := t
        simp only [] at hsn hne hsi c1 c2 c1' c2'
        clear hx hx' hf
        have hq := heq x y x' y'
        clear heq
        generalize hb : same2 x y x' y' = b at *
        clear hb
        go_upto_region 6 with fail
        go_quiet (fail)
        cases b
        · go_wp2_with fail
          go_ret
          have e := hne.out (by intro e; have := hsi.out; rw [e] at this; simp at this)
          have e2 : r = false := by rw [Hr.out]; exact e
          exact ⟨by rw [e2]; rfl, _, World.drewN_drewN _ _ _⟩
        · go_wp2_with fail
          have e := hsn.out (by have := hsi.out; simpa using this)
          go_roundw
          case rel => exact ⟨i + 1, by omega, by go_num, e, _, rfl⟩
          case measure => simp [intOf]; omega
      · have hi2 : i = n := by omega
        subst hi2
        have hq := hf.out
        rw [List.take_of_length_le (by omega), List.take_of_length_le (by omega)] at hq
        have e2 : r = true := by rw [Hr.out]; exact decide_eq_true hq
        have E2 := hide e2
        clear hf hq e2
        go_wp2
        go_ret
        exact ⟨by rw [E2.out]; rfl, _, rfl⟩
  · have e2 : r = false := by rw [Hr.out]; exact decide_eq_false fun e => hnn (by rw [← hl, ← hm, e])
    have E2 := hide e2
    clear e2
    go_enter Tryz.func48, Tryz.ntmps48
    go_wp2
    go_ret
    exact ⟨by rw [E2.out]; rfl, 0, rfl⟩
end Go.Proofs.YtllogmokadcfmaaGreat.Span
/-
  The contract of the document's put: a place into places that rise, once. Condition: at most 1,000,000 places.
-/
namespace Go.Proofs.YtllogmokadcfmaaGreat.Span
open Go.RowKit Go.Lib
set_option linter.unusedVariables false
def ins : List Int → Int → List Int
  | [], p => [p]
  | x :: t, p => if p < x then p :: x :: t else if p = x then p :: t else x :: ins t p
def clP (p : Int) : Int := min (max p 0) 1000000000
def refOut (done : Bool) (t : List Int) (q : Int) : List Int := if done then t else ins t q
theorem ref_low {t : List Int} {x q : Int} {l : List Int} (h : x :: t = l) (hq : q < x) : refOut false l q = [q] ++ [x] ++ refOut true t q := by
  subst h; simp [refOut, ins, hq]
theorem ref_at {t : List Int} {x q : Int} {l : List Int} (h : x :: t = l) (hq : q = x) : refOut false l q = [q] ++ refOut true t q := by
  subst h; subst hq; simp [refOut, ins]
theorem ref_high {t : List Int} {x q : Int} {l : List Int} (h : x :: t = l) (hq : ¬ q ≤ x) : refOut false l q = [x] ++ refOut false t q := by
  subst h; have h1 : ¬ q < x := by omega
  have h2 : ¬ q = x := by omega
  simp [refOut, ins, h1, h2]
theorem ref_done {t : List Int} {x q : Int} {l : List Int} (h : x :: t = l) : refOut true l q = [x] ++ refOut true t q := by
  subst h; rfl
theorem reads_int (w : World) (x : Int) (g : Nat) (hg : g = w.heap.size) : Reads (w.alloc (.cells #[.int .i64 x] 3)) (g + 1) 1 (some ⟨g, 0, none⟩) 1 (ics [x]) := by
  subst hg
  have h := Reads.newL w 3 #[.int .i64 x]
  exact ⟨rfl, fun _ => h.2 (by simp)⟩
theorem ics_append (l m : List Int) : ics (l ++ m) = ics l ++ ics m := by simp [ics]
theorem ics_one (l : List Int) : ∀ u ∈ ics l, u.oneCell' = true := by
  intro u hu
  simp only [ics, List.mem_map] at hu
  obtain ⟨b, _, rfl⟩ := hu
  rfl
set_option maxHeartbeats 4000000 in
set_option maxRecDepth 100000 in
theorem refPut_any {B n c : Nat} {A : Option Addr} {l : List Int} (p : Int) (w : World) (h : Reads w B 1 A n (ics l)) (hB : B ≤ w.heap.size) (hn : n ≤ 1000000) :
    Calls Tryz.prog 125 #[.slice A n c, .int .i64 p] w fun e w' => ∃ A' n' c', e = .returned (.slice A' n' c') ∧ Reads w' w'.heap.size 1 A' n' (ics (ins l (clP p))) ∧ Below w.heap.size w w' := by
  obtain ⟨i0, hi0, hz0, hz1, hz2⟩ := info_parts info_int
  have hl : l.length = n := by have := h.1; rw [ics_length] at this; omega
  obtain ⟨q, hq⟩ : ∃ q, q = clP p := ⟨_, rfl⟩
  rw [← hq]
  have Hq := hide hq
  clear hq
  generalize hR : ins l q = R
  have HR := hide hR
  clear hR
  go_enter Tryz.func125, Tryz.ntmps125
  go_upto_region 1 with fail
  go_cut [1] (fun u wx => u = .int .i64 q ∧ w = wx)
  case first =>
    go_wp2_with fail
    all_goals (go_meet; exact ⟨ret_i (by rw [Hq.out]; unfold clP; omega), rfl⟩)
  case rest =>
    obtain ⟨rfl, rfl⟩ := hcut
    go_wp2
    go_loopw [5, 6, 7] (fun v u6 u7 wr => ∃ (i : Nat) (done : Bool) (pre : List Int), i ≤ n ∧ u6 = .bool done ∧ u7 = .int .i64 (i : Int) ∧ wr.ownsRow w.heap.size 3 1 v pre.length (ics pre) ∧ (pre.length ≤ i ∨ done = true ∧ pre.length ≤ i + 1) ∧
      Hid (R = pre ++ refOut done (l.drop i) q) ∧ Below w.heap.size w wr) (fun _ _ u _ => n - (intOf u).toNat)
    case atStart => exact ⟨0, false, [], by omega, rfl, rfl, World.ownsRow_nil _ _ _ _, by simp, hide (by rw [← HR.out]; rfl), Below.refl _ _⟩
    case round =>
      obtain ⟨i, done, pre, hi, rfl, rfl, hown, hpl, hre, hb⟩ := hrel
      have hbs := hb.size
      by_cases hlt : i < n
      · obtain ⟨ad, x, rfl, hbl, hx, c1⟩ := ics_at (h.below (hb.mono hB)) hlt
        have c0 : w.cell? (ad.add i) = some (.int .i64 x) := (hb.cell (by rw [block_of_add]; omega)).symm.trans c1
        have hd := hide (show x :: l.drop (i + 1) = l.drop i by
          have hi' : i < l.length := (List.getElem?_eq_some_iff.1 hx).1
          rw [List.drop_eq_getElem_cons hi', (List.getElem?_eq_some_iff.1 hx).2])
        have r1 := hide (fun h => (ref_low (q := q) hd.out h))
        have r2 := hide (fun h => (ref_at (q := q) hd.out h))
        have r3 := hide (fun h => (ref_high (q := q) hd.out h))
        have r4 := hide (ref_done (q := q) hd.out)
        clear hx hd HR
        have hpl2 : pre.length ≤ i + 1 := by rcases hpl with h | h <;> omega
        cases done with
        | false =>
          have hpl3 : pre.length ≤ i := by
            rcases hpl with h | h
            · exact h
            · cases h.1
          clear hpl
          by_cases g1 : q ≤ x
          · by_cases g2 : q = x
            · have e := r2.out g2
              have E := hide e
              subst g2
              clear r1 r2 r3 r4 e g1
              go_wp2_with (at_builtin
                           refine wpList_append_any _ rfl (.tmp 27) (.tmp 29) _ rfl w.heap.size 3 i0 _ 1 8 Tryz.underlying58 hi0 hz0 hz1 hz2 rfl (by omega) _ _ _ rfl
                             (own_below hown ?_) _ _ 1 _ _ rfl (reads_int _ q _ (by simp)) (ics_one _) (by unfold maxLen; omega) (by omega) (by simp; omega) ?_
                           · exact (Below.refl _ _).alloc (Nat.le_refl _) _
                           intro v2 w2 hown2 hg2 hat2
                           have hb2 : Below w.heap.size w w2 := (hb.alloc hb.size _).grown hg2 (by simp; first | omega | (have := hb.size; omega)) (fun k hk => (hown.lt k hk).1)
                           have hs2 := hb2.size
                           have c3 : w2.cell? (ad.add i) = some (.int .i64 q) := (hb2.cell (by rw [block_of_add]; omega)).trans c0)
              rw [← ics_append] at hown2
              go_roundw
              case rel => exact ⟨i + 1, true, pre ++ [q], by omega, rfl, by go_num, by rw [List.length_append]; exact hown2, by rw [List.length_append, List.length_singleton]; first | exact .inl (by omega) | exact .inr ⟨rfl, by omega⟩, hide (by rw [hre.out, E.out]; simp), hb2⟩
              case measure => simp [intOf]; omega
            · have e := r1.out (by omega)
              have E := hide e
              have g3 : (q == x) = false := by simpa using g2
              clear r1 r2 r3 r4 e
              go_wp2_with (first
                | (at_builtin
                   have hx2 := hs2
                   refine wpList_append_any _ rfl (.tmp 37) (.tmp 42) _ rfl w.heap.size 3 i0 _ 1 8 Tryz.underlying58 hi0 hz0 hz1 hz2 rfl (by omega) _ _ _ rfl
                     (own_below hown2 ?_) _ _ 1 _ _ rfl (reads_int _ x _ (by simp)) (ics_one _) (by unfold maxLen; omega) (by omega) (by simp; omega) ?_
                   · exact (Below.refl _ _).alloc (Nat.le_refl _) _
                   intro v3 w3 hown3 hg3 hat3
                   have hb3 : Below w.heap.size w w3 := (hb2.alloc hb2.size _).grown hg3 (by simp; omega) (fun k hk => (hown2.lt k hk).1))
                | (at_builtin
                   refine wpList_append_any _ rfl (.tmp 27) (.tmp 29) _ rfl w.heap.size 3 i0 _ 1 8 Tryz.underlying58 hi0 hz0 hz1 hz2 rfl (by omega) _ _ _ rfl
                     (own_below hown ?_) _ _ 1 _ _ rfl (reads_int _ q _ (by simp)) (ics_one _) (by unfold maxLen; omega) (by omega) (by simp; omega) ?_
                   · exact (Below.refl _ _).alloc (Nat.le_refl _) _
                   intro v2 w2 hown2 hg2 hat2
                   have hb2 : Below w.heap.size w w2 := (hb.alloc hb.size _).grown hg2 (by simp; first | omega | (have := hb.size; omega)) (fun k hk => (hown.lt k hk).1)
                   have hs2 := hb2.size
                   have c3 : w2.cell? (ad.add i) = some (.int .i64 x) := (hb2.cell (by rw [block_of_add]; omega)).trans c0
                   clear c1))
              rw [← ics_append, ← ics_append] at hown3
              go_roundw
              case rel => exact ⟨i + 1, true, pre ++ [q] ++ [x], by omega, rfl, by go_num, by rw [List.length_append, List.length_append]; exact hown3, .inr ⟨rfl, by rw [List.length_append, List.length_append, List.length_singleton, List.length_singleton]; omega⟩, hide (by rw [hre.out, E.out]; simp), hb3⟩
              case measure => simp [intOf]; omega
          · have e := r3.out g1
            have E := hide e
            clear r1 r2 r3 r4 e
            go_wp2_with (at_builtin
                         refine wpList_append_any _ rfl (.tmp 37) (.tmp 42) _ rfl w.heap.size 3 i0 _ 1 8 Tryz.underlying58 hi0 hz0 hz1 hz2 rfl (by omega) _ _ _ rfl
                           (own_below hown ?_) _ _ 1 _ _ rfl (reads_int _ x _ (by simp)) (ics_one _) (by unfold maxLen; omega) (by omega) (by simp; omega) ?_
                         · exact (Below.refl _ _).alloc (Nat.le_refl _) _
                         intro v2 w2 hown2 hg2 hat2
                         have hb2 : Below w.heap.size w w2 := (hb.alloc hb.size _).grown hg2 (by simp; first | omega | (have := hb.size; omega)) (fun k hk => (hown.lt k hk).1)
                         have hs2 := hb2.size)
            rw [← ics_append] at hown2
            go_roundw
            case rel => exact ⟨i + 1, false, pre ++ [x], by omega, rfl, by go_num, by rw [List.length_append]; exact hown2, by rw [List.length_append, List.length_singleton]; first | exact .inl (by omega) | exact .inr ⟨rfl, by omega⟩, hide (by rw [hre.out, E.out]; simp), hb2⟩
            case measure => simp [intOf]; omega
        | true =>
          clear hpl
          have e := r4.out
          have E := hide e
          clear r1 r2 r3 r4 e
          go_wp2_with (at_builtin
                       refine wpList_append_any _ rfl (.tmp 37) (.tmp 42) _ rfl w.heap.size 3 i0 _ 1 8 Tryz.underlying58 hi0 hz0 hz1 hz2 rfl (by omega) _ _ _ rfl
                         (own_below hown ?_) _ _ 1 _ _ rfl (reads_int _ x _ (by simp)) (ics_one _) (by unfold maxLen; omega) (by omega) (by simp; omega) ?_
                       · exact (Below.refl _ _).alloc (Nat.le_refl _) _
                       intro v2 w2 hown2 hg2 hat2
                       have hb2 : Below w.heap.size w w2 := (hb.alloc hb.size _).grown hg2 (by simp; first | omega | (have := hb.size; omega)) (fun k hk => (hown.lt k hk).1)
                       have hs2 := hb2.size)
          rw [← ics_append] at hown2
          go_roundw
          case rel => exact ⟨i + 1, true, pre ++ [x], by omega, rfl, by go_num, by rw [List.length_append]; exact hown2, by rw [List.length_append, List.length_singleton]; first | exact .inl (by omega) | exact .inr ⟨rfl, by omega⟩, hide (by rw [hre.out, E.out]; simp), hb2⟩
          case measure => simp [intOf]; omega
      · have hi2 : i = n := by omega
        subst hi2
        have hpl2 : pre.length ≤ i + 1 := by rcases hpl with h | h <;> omega
        clear hpl
        have hdr : l.drop l.length = [] := List.drop_of_length_le (Nat.le_refl _)
        rw [← hl, hdr] at hre
        cases done with
        | true =>
          have e := hre.out
          simp only [refOut, if_true, List.append_nil] at e
          subst e
          clear hre HR hdr
          go_wp2
          go_ret
          obtain ⟨A', c', rfl, _, _, hr⟩ := own_form hown
          exact ⟨_, _, _, rfl, hr, hb⟩
        | false =>
          have e := hre.out
          simp only [refOut, Bool.false_eq_true, if_false, ins] at e
          have E := hide e
          clear hre HR e hdr
          go_wp2_with (at_builtin
                       refine wpList_append_any _ rfl (.tmp 46) (.tmp 48) _ rfl w.heap.size 3 i0 _ 1 8 Tryz.underlying58 hi0 hz0 hz1 hz2 rfl (by omega) _ _ _ rfl
                         (own_below hown ?_) _ _ 1 _ _ rfl (reads_int _ q _ (by simp)) (ics_one _) (by unfold maxLen; omega) (by omega) (by simp; omega) ?_
                       · exact (Below.refl _ _).alloc (Nat.le_refl _) _
                       intro v2 w2 hown2 hg2 hat2
                       have hb2 : Below w.heap.size w w2 := (hb.alloc hb.size _).grown hg2 (by simp; omega) (fun k hk => (hown.lt k hk).1))
          go_ret
          rw [← ics_append] at hown2
          obtain ⟨A', c', rfl, _, _, hr⟩ := own_form hown2
          exact ⟨_, _, _, rfl, by rw [E.out]; exact hr, hb2⟩
end Go.Proofs.YtllogmokadcfmaaGreat.Span
/-
  Cuts of sets: places that rise, between which nothing changes. No condition. Of no program.
-/
namespace Go.Proofs.YtllogmokadcfmaaGreat.Span
set_option linter.unusedVariables false
theorem mem_ins (l : List Int) (p x : Int) : x ∈ ins l p ↔ x = p ∨ x ∈ l := by
  induction l with
  | nil => simp [ins]
  | cons y t ih =>
    unfold ins
    split
    · simp
    · split
      · rename_i h; subst h; simp
      · simp only [List.mem_cons, ih]; constructor
        · rintro (h | h | h) <;> simp [h]
        · rintro (h | h | h) <;> simp [h]
theorem ins_rise (l : List Int) (p : Int) (h : l.Pairwise (· < ·)) : (ins l p).Pairwise (· < ·) := by
  induction l with
  | nil => simp [ins]
  | cons y t ih =>
    rw [List.pairwise_cons] at h
    unfold ins
    split
    · rename_i c
      rw [List.pairwise_cons, List.pairwise_cons]
      refine ⟨fun z hz => ?_, h⟩
      rcases List.mem_cons.1 hz with rfl | hz
      · exact c
      · have := h.1 z hz; omega
    · split
      · rename_i c; subst c; rw [List.pairwise_cons]; exact h
      · rw [List.pairwise_cons]
        refine ⟨fun z hz => ?_, ih h.2⟩
        rcases (mem_ins t p z).1 hz with rfl | hz
        · omega
        · exact h.1 z hz
theorem ins_len (l : List Int) (p : Int) : (ins l p).length ≤ l.length + 1 := by
  induction l with
  | nil => simp [ins]
  | cons y t ih =>
    unfold ins
    split
    · simp
    · split <;> simp; omega
def cut2 (l : List Int) (s : S) : List Int := ins (ins l (clP s.1)) (clP s.2)
theorem cut2_len (l : List Int) (s : S) : (cut2 l s).length ≤ l.length + 2 := by
  unfold cut2
  have h1 := ins_len (ins l (clP s.1)) (clP s.2)
  have h2 := ins_len l (clP s.1)
  omega
theorem fold2_len (a : List S) : ∀ l : List Int, (a.foldl cut2 l).length ≤ l.length + 2 * a.length := by
  induction a with
  | nil => intro l; simp
  | cons s t ih => intro l; have h1 := ih (cut2 l s); have h2 := cut2_len l s; simp only [List.foldl_cons, List.length_cons]; omega
def cutsS (a b : List S) : List Int := b.foldl cut2 (a.foldl cut2 [0, 1000000000])
def Cuts (l : List Int) (a : List S) : Prop := l.Pairwise (· < ·) ∧ (∀ x ∈ l, 0 ≤ x ∧ x ≤ 1000000000) ∧ (0 : Int) ∈ l ∧ (1000000000 : Int) ∈ l ∧ ∀ s ∈ a, clP s.1 ∈ l ∧ clP s.2 ∈ l
theorem Cuts.step {l : List Int} {a : List S} (h : Cuts l a) (s : S) : Cuts (cut2 l s) (a ++ [s]) := by
  obtain ⟨h1, h2, h3, h4, h5⟩ := h
  unfold cut2
  refine ⟨ins_rise _ _ (ins_rise _ _ h1), fun x hx => ?_, ?_, ?_, fun t ht => ?_⟩
  · rw [mem_ins, mem_ins] at hx
    rcases hx with rfl | rfl | hx
    · unfold clP; omega
    · unfold clP; omega
    · exact h2 x hx
  · rw [mem_ins, mem_ins]; simp [h3]
  · rw [mem_ins, mem_ins]; simp [h4]
  · rw [mem_ins, mem_ins, mem_ins, mem_ins]
    rcases List.mem_append.1 ht with ht | ht
    · have := h5 t ht; simp [this]
    · rw [List.mem_singleton.1 ht]; simp
theorem Cuts.fold (b : List S) : ∀ {l : List Int} {a : List S}, Cuts l a → Cuts (b.foldl cut2 l) (a ++ b) := by
  induction b with
  | nil => intro l a h; simpa using h
  | cons s t ih => intro l a h; have := ih (h.step s); rw [List.append_assoc] at this; exact this
theorem cuts_start : Cuts [0, 1000000000] [] := by
  refine ⟨by simp, fun x hx => ?_, by simp, by simp, fun s hs => by cases hs⟩
  simp only [List.mem_cons, List.not_mem_nil, or_false] at hx
  omega
theorem cutsS_ok (a b : List S) : Cuts (cutsS a b) (a ++ b) := by
  have h := Cuts.fold b (Cuts.fold a cuts_start)
  exact h
theorem Cuts.mono {l : List Int} {a b : List S} (h : Cuts l b) (hs : ∀ s ∈ a, s ∈ b) : Cuts l a := ⟨h.1, h.2.1, h.2.2.1, h.2.2.2.1, fun s hs' => h.2.2.2.2 s (hs s hs')⟩
theorem Cuts.between {l : List Int} {a : List S} (h : Cuts l a) {i : Nat} {lo hi : Int} (h1 : l[i]? = some lo) (h2 : l[i + 1]? = some hi) :
    0 ≤ lo ∧ lo < hi ∧ hi ≤ 1000000000 ∧ ∀ c ∈ l, c ≤ lo ∨ hi ≤ c := by
  obtain ⟨i1, e1⟩ := List.getElem?_eq_some_iff.1 h1
  obtain ⟨i2, e2⟩ := List.getElem?_eq_some_iff.1 h2
  have hp := List.pairwise_iff_getElem.1 h.1
  have r1 := h.2.1 lo (List.mem_of_getElem? h1)
  have r2 := h.2.1 hi (List.mem_of_getElem? h2)
  refine ⟨r1.1, ?_, r2.2, fun c hc => ?_⟩
  · have := hp i (i + 1) i1 i2 (by omega); omega
  · obtain ⟨j, j1, rfl⟩ := List.getElem_of_mem hc
    rcases Nat.lt_trichotomy j i with hj | hj | hj
    · have := hp j i j1 i1 hj; left; omega
    · subst hj; left; omega
    · rcases Nat.lt_or_ge j (i + 2) with hk | hk
      · have : j = i + 1 := by omega
        subst this; right; omega
      · have := hp (i + 1) j i2 j1 (by omega); right; omega
theorem Cuts.first {l : List Int} {a : List S} (h : Cuts l a) : l[0]? = some 0 := by
  obtain ⟨j, j1, e⟩ := List.getElem_of_mem h.2.2.1
  have hp := List.pairwise_iff_getElem.1 h.1
  rcases Nat.eq_zero_or_pos j with hj | hj
  · subst hj; rw [List.getElem?_eq_getElem j1, e]
  · have h0 : 0 < l.length := by omega
    have := hp 0 j h0 j1 hj
    have r := h.2.1 l[0] (List.getElem_mem h0)
    omega
theorem Cuts.last {l : List Int} {a : List S} (h : Cuts l a) {i : Nat} {lo : Int} (hi : i + 1 = l.length) (h1 : l[i]? = some lo) : lo = 1000000000 := by
  obtain ⟨j, j1, e⟩ := List.getElem_of_mem h.2.2.2.1
  obtain ⟨i1, e1⟩ := List.getElem?_eq_some_iff.1 h1
  have hp := List.pairwise_iff_getElem.1 h.1
  have r := h.2.1 lo (List.mem_of_getElem? h1)
  rcases Nat.lt_or_ge j i with hj | hj
  · have := hp j i j1 i1 hj; omega
  · have : j = i := by omega
    subst this; omega
theorem Cuts.same {l : List Int} {a : List S} (h : Cuts l a) {i : Nat} {lo hi q : Int} (h1 : l[i]? = some lo) (h2 : l[i + 1]? = some hi) (q0 : lo ≤ q) (q1 : q < hi) : has a q = has a lo := by
  obtain ⟨b0, b1, b2, b3⟩ := h.between h1 h2
  rw [Bool.eq_iff_iff, has_iff, has_iff]
  have key : ∀ s ∈ a, (s.1 ≤ q ∧ q < s.2) ↔ (s.1 ≤ lo ∧ lo < s.2) := fun s hs => by
    obtain ⟨c1, c2⟩ := h.2.2.2.2 s hs
    have k1 := b3 _ c1
    have k2 := b3 _ c2
    unfold clP at k1 k2
    omega
  constructor
  · rintro ⟨s, hs, hx⟩; exact ⟨s, hs, (key s hs).1 hx⟩
  · rintro ⟨s, hs, hx⟩; exact ⟨s, hs, (key s hs).2 hx⟩
theorem put_touch {P : Int → Bool} {lo hi : Int} {a : List S} {t : S} (h : nfTo P lo = a ++ [t]) (ht : t.2 = lo) (hh : lo < hi) : put (nfTo P lo) (lo, hi) = a ++ [(t.1, hi)] := by
  rw [h, put_snoc, if_neg (by simp only []; omega)]
  congr 2
  exact Prod.ext rfl (by simp only []; omega)
theorem put_apart {P : Int → Bool} {lo hi : Int} {a : List S} {t : S} (h : nfTo P lo = a ++ [t]) (ht : ¬ t.2 = lo) : put (nfTo P lo) (lo, hi) = nfTo P lo ++ [(lo, hi)] := by
  have := nfTo_low (P := P) (n := lo) t (by rw [h]; simp)
  rw [h, put_snoc, if_pos (by simp only []; omega)]
end Go.Proofs.YtllogmokadcfmaaGreat.Span
/-
  Contracts of Has, the program's and the document's: of any spans. Condition: the slice reads as spans.
-/
namespace Go.Proofs.YtllogmokadcfmaaGreat.Span
open Go.RowKit Go.Lib
set_option linter.unusedVariables false
theorem take_snoc_ (l : List S) (k : Nat) (a : S) (h : l[k]? = some a) : l.take (k + 1) = l.take k ++ [a] := by
  rw [List.take_add_one, h]; rfl
theorem has_in {l : List S} {i : Nat} {s : S} {p : Int} (h : l[i]? = some s) (h1 : s.1 ≤ p) (h2 : p < s.2) : has l p = true :=
  (has_iff l p).2 ⟨s, List.mem_of_getElem? h, h1, h2⟩
theorem has_next {l : List S} {i : Nat} {s : S} {p : Int} (h : l[i]? = some s) (h0 : has (l.take i) p = false) (h1 : ¬ (s.1 ≤ p ∧ p < s.2)) : has (l.take (i + 1)) p = false := by
  rw [take_snoc_ l i s h, has_append, h0, has_one, Bool.false_or]
  simpa using h1
set_option maxHeartbeats 1000000 in
theorem has_any {B n c : Nat} {A : Option Addr} {l : List S} (p : Int) (w : World) (h : SpIn w B A n l) (hB : B ≤ w.heap.size) (hn : n ≤ 1000000001) :
    Calls Tryz.prog 32 #[.slice A n c, .int .i64 p] w fun e w' => e = .returned (.bool (has l p)) ∧ Below w.heap.size w w' := by
  have hl : l.length = n := h.1
  go_enter Tryz.func32, Tryz.ntmps32
  go_wp2
  go_loopw [9] (fun v wr => ∃ (i : Nat), i ≤ n ∧ v = .int .i64 (i : Int) ∧ Hid (has (l.take i) p = false) ∧ Below w.heap.size w wr) (fun v _ => n - (intOf v).toNat)
  case atStart => exact ⟨0, by omega, rfl, hide rfl, Below.refl _ _⟩
  case round =>
    obtain ⟨i, hi, rfl, hf, hb⟩ := hrel
    by_cases hlt : i < n
    · obtain ⟨ad, s, rfl, hbl, hx, c1, c2⟩ := (h.below (hb.mono hB)).at_ hlt
      have hin := hide (@has_in l i s p hx)
      have hnx := hide (@has_next l i s p hx hf.out)
      obtain ⟨x, y⟩ := s
      simp only [] at hin hnx c1 c2
      clear hx hf
      by_cases g1 : x ≤ p
      · by_cases g2 : p < y
        · go_wp2
          go_ret
          exact ⟨by rw [hin.out g1 g2]; rfl, hb.alloc hb.size _⟩
        · go_wp2
          have hq := hnx.out (by omega)
          go_roundw
          case rel => exact ⟨i + 1, by omega, by go_num, hq, hb.alloc hb.size _⟩
          case measure => simp [intOf]; omega
      · go_wp2
        have hq := hnx.out (by omega)
        go_roundw
        case rel => exact ⟨i + 1, by omega, by go_num, hq, hb.alloc hb.size _⟩
        case measure => simp [intOf]; omega
    · have hi2 : i = n := by omega
      subst hi2
      have hq := hf.out
      rw [List.take_of_length_le (by omega)] at hq
      have Hq := hide hq
      clear hf hq
      go_wp2
      go_ret
      exact ⟨by rw [Hq.out]; rfl, hb⟩
set_option maxHeartbeats 1000000 in
theorem refHas_any {B n c : Nat} {A : Option Addr} {l : List S} (p : Int) (w : World) (h : SpIn w B A n l) (hn : n ≤ 1000000001) :
    Calls Tryz.prog 82 #[.slice A n c, .int .i64 p] w fun e w' => e = .returned (.bool (has l p && (decide (0 ≤ p) && decide (p < 1000000000)))) ∧ w = w' := by
  have hl : l.length = n := h.1
  obtain ⟨r, hr⟩ : ∃ r, r = (has l p && (decide (0 ≤ p) && decide (p < 1000000000))) := ⟨_, rfl⟩
  rw [← hr]
  have Hr := hide hr
  clear hr
  go_enter Tryz.func82, Tryz.ntmps82
  go_wp2
  go_loopw [5] (fun v wr => ∃ (i : Nat), i ≤ n ∧ v = .int .i64 (i : Int) ∧ Hid (has (l.take i) p = false) ∧ w = wr) (fun v _ => n - (intOf v).toNat)
  case atStart => exact ⟨0, by omega, rfl, hide rfl, rfl⟩
  case round =>
    obtain ⟨i, hi, rfl, hf, rfl⟩ := hrel
    by_cases hlt : i < n
    · obtain ⟨ad, s, rfl, hbl, hx, c1, c2⟩ := h.at_ hlt
      have hin := hide (@has_in l i s p hx)
      have hnx := hide (@has_next l i s p hx hf.out)
      obtain ⟨x, y⟩ := s
      simp only [] at hin hnx c1 c2
      clear hx hf
      by_cases g1 : x ≤ p
      · by_cases g2 : p < y
        · by_cases g3 : 0 ≤ p
          · by_cases g4 : p < 1000000000
            · go_wp2
              go_ret
              have e : r = true := by rw [Hr.out, hin.out g1 g2, decide_eq_true g3, decide_eq_true g4]; rfl
              exact ⟨by rw [e]; rfl, rfl⟩
            · go_wp2
              go_ret
              have e : r = false := by rw [Hr.out]; simp; omega
              exact ⟨by rw [e]; rfl, rfl⟩
          · go_wp2
            go_ret
            have e : r = false := by rw [Hr.out]; simp; omega
            exact ⟨by rw [e]; rfl, rfl⟩
        · go_wp2
          have hq := hnx.out (by omega)
          go_roundw
          case rel => exact ⟨i + 1, by omega, by go_num, hq, trivial⟩
          case measure => simp [intOf]; omega
      · go_wp2
        have hq := hnx.out (by omega)
        go_roundw
        case rel => exact ⟨i + 1, by omega, by go_num, hq, trivial⟩
        case measure => simp [intOf]; omega
    · have hi2 : i = n := by omega
      subst hi2
      have hq := hf.out
      rw [List.take_of_length_le (by omega)] at hq
      have Hq := hide hq
      clear hf hq
      go_wp2
      go_ret
      have e : r = false := by rw [Hr.out, Hq.out]; rfl
      exact ⟨by rw [e]; rfl, rfl⟩
end Go.Proofs.YtllogmokadcfmaaGreat.Span
/-
  All and One, the program's All too; the set of any spans, as plain data. No condition.
-/
namespace Go.Proofs.YtllogmokadcfmaaGreat.Span
open Go.RowKit Go.Lib
set_option linter.unusedVariables false
noncomputable def ofS (l : List S) : List S := nf (has l)
noncomputable def oneS (p : Int) : List S := nf fun q => decide (q = p)
theorem refAll_any (w : World) :
    Calls Tryz.prog 49 #[] w fun e w' => ∃ A' m c', e = .returned (.slice A' m c') ∧ SpIn w' w'.heap.size A' m [(0, 1000000000)] ∧ Below w.heap.size w w' := by
  have hrd := hide (spIn_of_reads (reads_one w 0 1000000000 _ rfl))
  go_enter Tryz.func49, Tryz.ntmps49
  go_wp2
  go_ret
  exact ⟨_, _, _, rfl, (hrd.out).more (by simp), (Below.refl _ _).alloc (Nat.le_refl _) _⟩
theorem oneS_some {p : Int} (h0 : 0 ≤ p) (h1 : p < 1000000000) : oneS p = [(p, p + 1)] := by
  refine (is_nf (L := [(p, p + 1)]) ?_ fun q _ _ => ?_).symm
  · rw [isSet_cons]; exact ⟨by simp only []; omega, by simp only []; omega, by simp only []; omega, rfl⟩
  · rw [has_one, Bool.eq_iff_iff]; simp; omega
end Go.Proofs.YtllogmokadcfmaaGreat.Span
/-
  Contracts of Least and Most. Condition: the slice reads as spans; Most's, that each ends within all places.
-/
namespace Go.Proofs.YtllogmokadcfmaaGreat.Span
open Go.RowKit Go.Lib
set_option linter.unusedVariables false
theorem least_any {B n c : Nat} {A : Option Addr} {l : List S} (w : World) (h : SpIn w B A n l) (hn : n ≤ 1000000001) :
    Calls Tryz.prog 42 #[.slice A n c] w fun e w' => e = .returned (.tuple #[.int .i64 ((l[0]?.getD (0, 0)).1), .bool (decide (0 < n))]) ∧ w = w' := by
  rcases Nat.eq_zero_or_pos n with h0 | h0
  · subst h0
    have e : l = [] := List.eq_nil_of_length_eq_zero h.1
    subst e
    go_enter Tryz.func42, Tryz.ntmps42
    go_wp2
    go_ret2
    exact ⟨rfl, rfl⟩
  · obtain ⟨ad, s, rfl, hbl, hx, c1, c2⟩ := h.at_ h0
    rw [hx]
    have e0 : decide (0 < n) = true := by simpa using h0
    rw [e0]
    have ha : ad.add (0 * 2) = ad := by simp [Addr.add]
    rw [ha] at c1 c2
    go_enter Tryz.func42, Tryz.ntmps42
    go_wp2
    go_ret2
    exact ⟨rfl, rfl⟩
end Go.Proofs.YtllogmokadcfmaaGreat.Span
/-
  The contract of the document's Check: whether spans are a set. Condition: the slice reads as spans.
-/
namespace Go.Proofs.YtllogmokadcfmaaGreat.Span
open Go.RowKit Go.Lib
set_option linter.unusedVariables false
set_option maxHeartbeats 4000000 in
set_option maxRecDepth 100000 in
theorem refCheck_any {B n c : Nat} {A : Option Addr} {l : List S} (w : World) (h : SpIn w B A n l) (hn : n ≤ 1000000001) :
    Calls Tryz.prog 60 #[.slice A n c] w fun e w' => e = .returned (.bool (isSet (-1) l)) ∧ ∃ k, w' = w.drewN k := by
  have hl : l.length = n := h.1
  obtain ⟨r, hr⟩ : ∃ r, r = isSet (-1) l := ⟨_, rfl⟩
  rw [← hr]
  have Hr := hide hr
  clear hr
  go_enter Tryz.func60, Tryz.ntmps60
  go_wp2
  go_loopw [3] (fun v wr => ∃ (i : Nat) (e : Int), i ≤ n ∧ v = .int .i64 (i : Int) ∧ -1 ≤ e ∧ Hid (r = isSet e (l.drop i)) ∧ Hid (i = 0 ∧ e = -1 ∨ ∃ m x, i = m + 1 ∧ l[m]? = some (x, e)) ∧ ∃ k, wr = w.drewN k) (fun v _ => n - (intOf v).toNat)
  case atStart => exact ⟨0, -1, by omega, rfl, by omega, Hr, hide (.inl ⟨rfl, rfl⟩), 0, rfl⟩
  case round =>
    obtain ⟨i, e, hi, rfl, hem, hf, he, k, rfl⟩ := hrel
    by_cases hlt : i < n
    · obtain ⟨ad, s, rfl, hbl, hx, c1, c2⟩ := h.at_ hlt
      have hst := hide (@set_step l i s e 0 r hx hf.out)
      have Hx := hide hx
      obtain ⟨x, y⟩ := s
      simp only [] at hst c1 c2
      clear hx hf Hr
      have i1 : (0 : Int) ≤ (i : Int) := by omega
      have i2 : (i : Int) < (n : Int) := by omega
      go_upto_region 4 with fail
      by_cases g1 : x < 0
      · have d1 : decide (x < 0) = true := decide_eq_true g1
        have e2 := hide (show r = false by rw [hst.out, decide_eq_false (show ¬ e < x by omega)]; rfl)
        clear hst
        go_quiet (fail)
        go_wp2_with fail
        go_ret
        exact ⟨by rw [e2.out]; rfl, _, by first | rfl | exact World.drewN_drewN _ _ _⟩
      · have d1 : decide (x < 0) = false := decide_eq_false g1
        by_cases g2 : 1000000000 < y
        · have d2 : decide (1000000000 < y) = true := decide_eq_true g2
          have e2 := hide (show r = false by rw [hst.out, decide_eq_false (show ¬ y ≤ 1000000000 by omega), Bool.and_false]; rfl)
          clear hst
          go_quiet (fail)
          go_wp2_with fail
          go_ret
          exact ⟨by rw [e2.out]; rfl, _, by first | rfl | exact World.drewN_drewN _ _ _⟩
        · have d2 : decide (1000000000 < y) = false := decide_eq_false g2
          by_cases g3 : y ≤ x
          · have d3 : decide (y ≤ x) = true := decide_eq_true g3
            have e2 := hide (show r = false by rw [hst.out, decide_eq_false (show ¬ x < y by omega), Bool.and_false]; rfl)
            clear hst
            go_quiet (fail)
            go_wp2_with fail
            go_ret
            exact ⟨by rw [e2.out]; rfl, _, by first | rfl | exact World.drewN_drewN _ _ _⟩
          · have d3 : decide (y ≤ x) = false := decide_eq_false g3
            have hgo := hide (fun h1 : e < x => show r = isSet y (l.drop (i + 1)) by rw [hst.out, decide_eq_true h1, decide_eq_true (show x < y by omega), decide_eq_true (show y ≤ 1000000000 by omega)]; rfl)
            have hno := hide (fun h1 : ¬ e < x => show r = false by rw [hst.out, decide_eq_false h1]; rfl)
            clear hst
            have hnx := hide (show (i + 1 = 0 ∧ y = -1 ∨ ∃ m x, i + 1 = m + 1 ∧ l[m]? = some (x, y)) from .inr ⟨i, x, rfl, Hx.out⟩)
            rcases he.out with ⟨rfl, rfl⟩ | ⟨m, x', rfl, hm⟩
            · have hg := hgo.out (by omega)
              have Hg := hide hg
              have ha : ad.add (0 * 2) = ad := by simp [Addr.add]
              rw [ha] at c1 c2
              clear hg hgo hno he Hx
              go_quiet (fail)
              go_wp2_with fail
              go_roundw
              case rel => exact ⟨0 + 1, y, by omega, by go_num, by omega, Hg, hnx, _, rfl⟩
              case measure => simp [intOf]; omega
            · obtain ⟨ad', s', hA, _, hx', c1', c2'⟩ := h.at_ (k := m) (by omega)
              injection hA with hA
              subst hA
              rw [hm] at hx'
              injection hx' with hx'
              subst hx'
              simp only [] at c1' c2'
              clear hm he Hx
              by_cases g4 : x ≤ e
              · have d4 : decide (x ≤ e) = true := decide_eq_true g4
                have hg := hno.out (by omega)
                have Hg := hide hg
                clear hg hgo hno
                go_quiet (fail)
                go_wp2_with fail
                go_ret
                exact ⟨by rw [Hg.out]; rfl, _, by first | rfl | exact World.drewN_drewN _ _ _⟩
              · have d4 : decide (x ≤ e) = false := decide_eq_false g4
                have hg := hgo.out (by omega)
                have Hg := hide hg
                clear hg hgo hno
                go_quiet (fail)
                go_wp2_with fail
                go_roundw
                case rel => exact ⟨m + 1 + 1, y, by omega, by go_num, by omega, Hg, hnx, _, rfl⟩
                case measure => simp [intOf]; omega
    · have hi2 : i = n := by omega
      subst hi2
      have e2 : r = true := by rw [hf.out, List.drop_of_length_le (by omega)]; rfl
      have E2 := hide e2
      clear hf Hr e2 he
      go_wp2
      go_ret
      exact ⟨by rw [E2.out]; rfl, _, rfl⟩
end Go.Proofs.YtllogmokadcfmaaGreat.Span
