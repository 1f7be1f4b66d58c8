/-
  Some texts of this claim, one behind the other: FactCells, JudgeCells, ClashRefCheck, ClashRefTold, ClashRefMake, ClashSpec. What each proves, and its condition, stands at its head.
-/
import Derived.Test.YtdmejcfnolhplaaGreatZB39
import Derived.Test.YtdmejcfnolhplaaGreatZB19
import Derived.Test.YtdmejcfnolhplaaGreatZB17
import Derived.Laws.Cover1
import Derived.Test.YtdmejcfnolhplaaGreatZB3
import Derived.Test.YtdmejcfnolhplaaGreatZB13
import Derived.Test.YtdmejcfnolhplaaGreatZB8
import Derived.Test.YtdmejcfnolhplaaGreatZB14
import Derived.Shelf.Strings.OnBuilder
import Derived.Test.YtdmejcfnolhplaaGreatZB40
import Derived.Test.YtdmejcfnolhplaaGreatZB22
import Derived.Test.YtdmejcfnolhplaaGreatZB9
/-
  Slices of terms whose rows' types are told (so that they stay where a row of another type is written); lists of clashes, and lists of steps, in memory: as they came in, and as a call makes them. No condition.
-/
namespace Go.Proofs.YtdmejcfnolhplaaGreat.Fact
open Go Go.RowKit Go.Lib Go.Proofs.YtdmejcfnolhplaaGreat.Span Go.Proofs.YtdmejcfnolhplaaGreat.Need Go.Proofs.YtdmejcfnolhplaaGreat.Mani Go.Proofs.YtdmejcfnolhplaaGreat.Grow Go.Proofs.YtdmejcfnolhplaaGreat.Term Go.Proofs.YtdmejcfnolhplaaGreat.Clash
set_option linter.unusedVariables false
theorem insLow {w wx : World} {B n : Nat} {A : Option Addr} {l : List S} (h : SpIn w B A n l) (ht : InS w 0 A n l) (hB : B ≤ w.heap.size) (hb : Below B w wx) (hs : w.heap.size ≤ wx.heap.size) : InS wx 0 A n l :=
  ⟨(h.below hb).more (by omega), fun ad hA hn => by
    obtain ⟨ad', hA', hlt, _⟩ := h.2 hn
    rw [hA] at hA'
    injection hA' with hA'
    subst hA'
    rcases ht.2 ad hA hn with h1 | ⟨cur, m, h1⟩
    · omega
    · exact .inr ⟨cur, m, (hb.block _ hlt).trans h1⟩⟩
def TmR (w : World) (B : Nat) (A : Option Addr) (n : Nat) (l : List Tm) : Prop :=
  ∃ rs, Reads w B 3 A n (tms rs) ∧ FitsT w B rs l ∧ (∀ ad, A = some ad → 0 < n → ∃ cur m, w.heap[ad.block]? = some (.cells cur 77 m)) ∧ AllT w 0 rs l
section
variable {w w' wx : World} {B B' n k : Nat} {A : Option Addr} {l : List Tm}
theorem TmR.in_ (h : TmR w B A n l) : TmIn w B A n l := by obtain ⟨rs, h1, h2, _⟩ := h; exact ⟨rs, h1, h2⟩
theorem TmR.len (h : TmR w B A n l) : l.length = n := h.in_.len
theorem TmR.nil (w : World) (B : Nat) (A : Option Addr) : TmR w B A 0 [] := ⟨[], ⟨rfl, fun h => absurd h (by omega)⟩, ⟨rfl, fun i r q hr _ => by simp at hr⟩, fun _ _ h => absurd h (by omega), rfl, fun i r q hr _ => by simp at hr⟩
theorem TmR.below (h : TmR w B A n l) (hb : Below B w w') (hB : B ≤ w.heap.size) (hs : w.heap.size ≤ w'.heap.size) : TmR w' B A n l := by
  obtain ⟨rs, h1, h2, h3, h4⟩ := h
  refine ⟨rs, h1.below hb, h2.below hb, fun ad hA hn => ?_, h4.1, fun i r q hr hq => ?_⟩
  · obtain ⟨ad', hA', hlt, _⟩ := h1.2 hn
    rw [hA] at hA'
    injection hA' with hA'
    subst hA'
    obtain ⟨cur, m, g⟩ := h3 ad hA hn
    exact ⟨cur, m, (hb.block _ hlt).trans g⟩
  · obtain ⟨e1, e3, A1, n1, c1, e2, hs1⟩ := h2.2 i r q hr hq
    obtain ⟨_, _, A2, n2, c2, e4, hs2⟩ := h4.2 i r q hr hq
    rw [e2] at e4
    injection e4 with f1 f2 f3
    subst f1 f2 f3
    exact ⟨e1, e3, A1, n1, c1, e2, insLow hs1 hs2 hB hb hs⟩
theorem TmR.more (h : TmR w B A n l) (hb : B ≤ B') : TmR w B' A n l := by
  obtain ⟨rs, h1, h2, h3, h4⟩ := h
  exact ⟨rs, h1.more hb, h2.more hb, h3, h4⟩
theorem TmR.on (h : TmR w w.heap.size A n l) (hb : Below w.heap.size w w') : TmR w' w'.heap.size A n l := (TmR.below h hb (Nat.le_refl _) hb.size).more hb.size
theorem TmR.far {row : Option Nat} (h : TmR w w.heap.size A n l) (h1 : FarT w 67 row) (h2 : FarT w 77 row) (hg : w.grownBy w' row) : TmR w' w'.heap.size A n l := by
  obtain ⟨rs, g1, g2, g3, g4⟩ := h
  have h4 : AllT w' 0 rs l := g4.mono fun _ _ _ hs => insFar hs h1 hg
  have blk : ∀ ad, A = some ad → 0 < n → w'.heap[ad.block]? = w.heap[ad.block]? := fun ad hA hn => by
    obtain ⟨ad', hA', hlt, _⟩ := g1.2 hn
    rw [hA] at hA'
    injection hA' with hA'
    subst hA'
    obtain ⟨cur, k, h5⟩ := g3 ad hA hn
    exact hg.block _ hlt (h2 _ _ _ h5)
  refine ⟨rs, ⟨g1.1, fun hn => ?_⟩, ⟨h4.1, fun i r q hr hq => ?_⟩, fun ad hA hn => ?_, h4⟩
  · obtain ⟨ad, hA, hlt, hc⟩ := g1.2 hn
    exact ⟨ad, hA, Nat.lt_of_lt_of_le hlt hg.size, fun j u hu => (World.cell?_of_block (by rw [block_of_add]; exact blk ad hA hn)).trans (hc j u hu)⟩
  · obtain ⟨e1, e3, A1, n1, c1, e2, hs⟩ := h4.2 i r q hr hq
    exact ⟨e1, e3, A1, n1, c1, e2, hs.1⟩
  · obtain ⟨cur, k, h5⟩ := g3 ad hA hn
    exact ⟨cur, k, (blk ad hA hn).trans h5⟩
theorem TmR.at_ (h : TmR w B A n l) (hk : k < n) :
    ∃ ad q A' n' c', A = some ad ∧ ad.block < B ∧ l[k]? = some q ∧ SpIn w B A' n' q.set ∧ w.cell? (ad.add (k * 3)) = some (.string q.name) ∧ w.cell? ⟨(ad.add (k * 3)).block, (ad.add (k * 3)).off + 1, none⟩ = some (.slice A' n' c') ∧ w.cell? ⟨(ad.add (k * 3)).block, (ad.add (k * 3)).off + 2, none⟩ = some (.bool q.none) ∧ InS w 0 A' n' q.set := by
  have hl := h.len
  obtain ⟨rs, h1, h2, h3, h4⟩ := h
  obtain ⟨ad, hA, hb, hc⟩ := h1.2 (by omega)
  have hr : k < rs.length := by rw [h2.1]; omega
  obtain ⟨e1, e3, A', n', c', e2, hs⟩ := h2.2 k rs[k] (l[k]'(by omega)) (by simp) (by simp)
  obtain ⟨_, _, A2, n2, c2, e4, hs2⟩ := h4.2 k rs[k] (l[k]'(by omega)) (by simp) (by simp)
  rw [e2] at e4
  injection e4 with f1 f2 f3
  subst f1 f2 f3
  obtain ⟨g1, g2, g3⟩ := tms_get rs k rs[k] (by simp)
  refine ⟨ad, l[k]'(by omega), A', n', c', hA, hb, by simp, hs, ?_, ?_, ?_, hs2⟩
  · rw [← e1]; exact hc _ _ g1
  · rw [← add_field, ← e2]; exact hc _ _ g2
  · rw [← add_two, ← e3]; exact hc _ _ g3
end
def TmsR (w : World) (B : Nat) (v : Value) (n : Nat) (rs : List Rt) (l : List Tm) : Prop := w.ownsRow B 77 3 v n (tms rs) ∧ AllT w 0 rs l
section
variable {w w' w1 w2 : World} {B n m : Nat} {v v1 x : Value} {rs rs2 : List Rt} {l l2 out : List Tm} {t : Tm}
theorem TmsR.nil_ (w : World) (B : Nat) : TmsR w B (.slice none 0 0) 0 [] [] := ⟨World.ownsRow_nil w B _ 3, rfl, fun i r q hr _ => by simp at hr⟩
theorem TmsR.below (h : TmsR w B v n rs l) (hb : Below w.heap.size w w') : TmsR w' B v n rs l := ⟨own_below h.1 hb, h.2.mono fun _ _ _ hs => hs.below hb⟩
theorem TmsR.cat (h : TmsR w B v n rs l) (h2 : AllT w 0 rs2 l2) (h1 : w1.ownsRow B 77 3 v1 m (tms rs ++ tms rs2)) (hg : w.grownBy w1 v.ownBlock) : TmsR w1 B v1 m (rs ++ rs2) (l ++ l2) :=
  ⟨by rw [tms_append]; exact h1, (h.2.append h2).mono fun _ _ _ hs => insFar hs (farT_own h.1 (by decide)) hg⟩
theorem TmsR.len (h : TmsR w B v n rs l) : l.length = n := by
  have := h.1.1
  rw [tms_length] at this
  have := h.2.1
  omega
theorem TmsR.told (h : TmsR w B v n rs l) : ∃ A c, v = .slice A n c ∧ n ≤ c ∧ TmR w w.heap.size A n l := by
  obtain ⟨A, c, rfl, hc, _, hr⟩ := own_form h.1
  refine ⟨A, c, rfl, hc, rs, hr, ⟨h.2.1, fun i r q hr hq => ?_⟩, fun ad hA hn => ?_, h.2⟩
  · obtain ⟨e1, e3, A, n, c, e2, hs⟩ := h.2.2 i r q hr hq
    exact ⟨e1, e3, A, n, c, e2, hs.1⟩
  · rcases h.1.2 with ⟨e, _⟩ | ⟨g, cap, cur, e, hB, hgg, _⟩
    · injection e with e1 e2 e3
      omega
    · injection e with e1 e2 e3
      rw [hA] at e1
      injection e1 with e1
      subst e1
      exact ⟨cur, _, hgg⟩
end
def MakesR (w : World) (r : Option (List Tm)) (e : Ending) (w' : World) : Prop := ∃ A n c, e = .returned (.tuple #[.slice A n c, .bool r.isSome]) ∧ TmR w' w'.heap.size A n (r.getD []) ∧ Below w.heap.size w w'
/-! Lists of clashes. -/
theorem info_terms : (Tryz.prog.info? 41).map (fun i => (i.zero, i.size, i.bytes)) = some (some (.slice none 0 0), 1, 24) := by kernel_rfl
def FcIn (w : World) (B : Nat) (A : Option Addr) (n : Nat) (L : List (List Tm)) : Prop :=
  ∃ vs : List Value, Reads w B 1 A n vs ∧ vs.length = L.length ∧ ∀ (i : Nat) (v : Value) (c : List Tm), vs[i]? = some v → L[i]? = some c → ∃ A' n' c', v = .slice A' n' c' ∧ TmIn w B A' n' c
section
variable {w w' w1 : World} {B B' n m k : Nat} {A : Option Addr} {L L2 : List (List Tm)} {v v1 : Value} {vs vs2 : List Value}
theorem FcIn.len (h : FcIn w B A n L) : L.length = n := by
  obtain ⟨vs, h1, h2, _⟩ := h
  have := h1.1
  omega
theorem FcIn.at_ (h : FcIn w B A n L) (hk : k < n) : ∃ ad c A' n' c', A = some ad ∧ ad.block < B ∧ L[k]? = some c ∧ TmIn w B A' n' c ∧ w.cell? (ad.add k) = some (.slice A' n' c') := by
  have hl := h.len
  obtain ⟨vs, h1, h2, h3⟩ := h
  obtain ⟨ad, hA, hb, hc⟩ := h1.2 (by omega)
  have hr : k < vs.length := by rw [h2]; omega
  obtain ⟨A', n', c', e, ht⟩ := h3 k vs[k] (L[k]'(by omega)) (by simp) (by simp)
  refine ⟨ad, L[k]'(by omega), A', n', c', hA, hb, by simp, ht, ?_⟩
  rw [← e]
  exact hc k _ (by simp)
theorem FcIn.below (h : FcIn w B A n L) (hb : Below B w w') : FcIn w' B A n L := by
  obtain ⟨vs, h1, h2, h3⟩ := h
  refine ⟨vs, h1.below hb, h2, fun i v c hv hc => ?_⟩
  obtain ⟨A', n', c', e, ht⟩ := h3 i v c hv hc
  exact ⟨A', n', c', e, ht.below hb⟩
theorem FcIn.more (h : FcIn w B A n L) (hb : B ≤ B') : FcIn w B' A n L := by
  obtain ⟨vs, h1, h2, h3⟩ := h
  refine ⟨vs, h1.more hb, h2, fun i v c hv hc => ?_⟩
  obtain ⟨A', n', c', e, ht⟩ := h3 i v c hv hc
  exact ⟨A', n', c', e, ht.more hb⟩
theorem FcIn.nil (w : World) (B : Nat) (A : Option Addr) : FcIn w B A 0 [] := ⟨[], ⟨rfl, fun h => absurd h (by omega)⟩, rfl, fun i v c hv _ => by simp at hv⟩
def AllF (w : World) (vs : List Value) (L : List (List Tm)) : Prop := vs.length = L.length ∧ ∀ (i : Nat) (v : Value) (c : List Tm), vs[i]? = some v → L[i]? = some c → ∃ A' n' c', v = .slice A' n' c' ∧ TmR w w.heap.size A' n' c
theorem AllF.mono (h : AllF w vs L) (hk : ∀ A n l, TmR w w.heap.size A n l → TmR w' w'.heap.size A n l) : AllF w' vs L := ⟨h.1, fun i v c hv hc => by
  obtain ⟨A', n', c', e, ht⟩ := h.2 i v c hv hc
  exact ⟨A', n', c', e, hk _ _ _ ht⟩⟩
theorem AllF.append (h : AllF w vs L) (h2 : AllF w vs2 L2) : AllF w (vs ++ vs2) (L ++ L2) :=
  ⟨by simp [h.1, h2.1], fun i r q hr hq => by
    rcases Nat.lt_or_ge i vs.length with hi | hi
    · rw [List.getElem?_append_left hi] at hr
      rw [List.getElem?_append_left (by rw [← h.1]; exact hi)] at hq
      exact h.2 i r q hr hq
    · rw [List.getElem?_append_right hi] at hr
      rw [List.getElem?_append_right (by rw [← h.1]; exact hi), ← h.1] at hq
      exact h2.2 _ r q hr hq⟩
theorem AllF.one {c : List Tm} {k : Nat} (h : TmR w w.heap.size A n c) : AllF w [.slice A n k] [c] :=
  ⟨rfl, fun i r q hr hq => by
    rcases i with _ | i
    · simp at hr hq
      subst hr hq
      exact ⟨A, n, k, rfl, h⟩
    · simp at hr⟩
def Fcs (w : World) (B : Nat) (v : Value) (n : Nat) (vs : List Value) (L : List (List Tm)) : Prop := w.ownsRow B 41 1 v n vs ∧ AllF w vs L
theorem Fcs.nil_ (w : World) (B : Nat) : Fcs w B (.slice none 0 0) 0 [] [] := ⟨World.ownsRow_nil w B _ 1, rfl, fun i r q hr _ => by simp at hr⟩
theorem Fcs.below (h : Fcs w B v n vs L) (hb : Below w.heap.size w w') : Fcs w' B v n vs L := ⟨own_below h.1 hb, h.2.mono fun _ _ _ hs => hs.on hb⟩
theorem Fcs.cat (h : Fcs w B v n vs L) (h2 : AllF w vs2 L2) (h1 : w1.ownsRow B 41 1 v1 m (vs ++ vs2)) (hg : w.grownBy w1 v.ownBlock) : Fcs w1 B v1 m (vs ++ vs2) (L ++ L2) :=
  ⟨h1, (h.2.append h2).mono fun _ _ _ hs => hs.far (farT_own h.1 (by decide)) (farT_own h.1 (by decide)) hg⟩
theorem Fcs.told (h : Fcs w B v n vs L) : ∃ A c, v = .slice A n c ∧ n ≤ c ∧ FcIn w w.heap.size A n L := by
  obtain ⟨A, c, rfl, hc, _, hr⟩ := own_form h.1
  exact ⟨A, c, rfl, hc, vs, hr, h.2.1, fun i v c hv hc => by
    obtain ⟨A', n', c', e, ht⟩ := h.2.2 i v c hv hc
    exact ⟨A', n', c', e, ht.in_⟩⟩
end
def FcOn (w : World) (A : Option Addr) (n : Nat) (L : List (List Tm)) : Prop := FcIn w w.heap.size A n L
theorem FcOn.on {w w' : World} {A : Option Addr} {n : Nat} {L : List (List Tm)} (h : FcOn w A n L) (hb : Below w.heap.size w w') : FcOn w' A n L := (FcIn.below h hb).more hb.size
/-! Lists of steps. -/
abbrev Sp := Proof.Sp
def sps : List Sp → List Value
  | [] => []
  | q :: t => .int .i64 q.kind :: .string q.name :: .int .i64 q.ver :: .string q.dest :: .int .i64 q.a :: .int .i64 q.b :: sps t
theorem sps_length (l : List Sp) : (sps l).length = l.length * 6 := by
  induction l with
  | nil => rfl
  | cons s t ih => simp [sps, ih]; omega
theorem sps_get (l : List Sp) : ∀ (i : Nat) (q : Sp), l[i]? = some q → (sps l)[i * 6]? = some (.int .i64 q.kind) ∧ (sps l)[i * 6 + 1]? = some (.string q.name) ∧ (sps l)[i * 6 + 2]? = some (.int .i64 q.ver) ∧ (sps l)[i * 6 + 3]? = some (.string q.dest) ∧ (sps l)[i * 6 + 4]? = some (.int .i64 q.a) ∧ (sps l)[i * 6 + 5]? = some (.int .i64 q.b) := by
  induction l with
  | nil => intro i s h; simp at h
  | cons x t ih =>
    intro i s h
    cases i with
    | zero => simp at h; subst h; exact ⟨rfl, rfl, rfl, rfl, rfl, rfl⟩
    | succ i =>
      rw [List.getElem?_cons_succ] at h
      have := ih i s h
      have e : (i + 1) * 6 = i * 6 + 1 + 1 + 1 + 1 + 1 + 1 := by omega
      rw [e]
      refine ⟨this.1, ?_, ?_, ?_, ?_, ?_⟩
      · rw [show i * 6 + 1 + 1 + 1 + 1 + 1 + 1 + 1 = (i * 6 + 1) + 1 + 1 + 1 + 1 + 1 + 1 by omega]; exact this.2.1
      · rw [show i * 6 + 1 + 1 + 1 + 1 + 1 + 1 + 2 = (i * 6 + 2) + 1 + 1 + 1 + 1 + 1 + 1 by omega]; exact this.2.2.1
      · rw [show i * 6 + 1 + 1 + 1 + 1 + 1 + 1 + 3 = (i * 6 + 3) + 1 + 1 + 1 + 1 + 1 + 1 by omega]; exact this.2.2.2.1
      · rw [show i * 6 + 1 + 1 + 1 + 1 + 1 + 1 + 4 = (i * 6 + 4) + 1 + 1 + 1 + 1 + 1 + 1 by omega]; exact this.2.2.2.2.1
      · rw [show i * 6 + 1 + 1 + 1 + 1 + 1 + 1 + 5 = (i * 6 + 5) + 1 + 1 + 1 + 1 + 1 + 1 by omega]; exact this.2.2.2.2.2
def SsIn (w : World) (B : Nat) (A : Option Addr) (n : Nat) (l : List Sp) : Prop := Reads w B 6 A n (sps l)
section
variable {w w' w1 : World} {B B' n m k : Nat} {A : Option Addr} {l : List Sp} {v v1 : Value}
theorem SsIn.len (h : SsIn w B A n l) : l.length = n := by
  have := h.1
  rw [sps_length] at this
  omega
theorem addr_any (a : Addr) (i j : Nat) (hj : 0 < j) : a.add (i + j) = ⟨(a.add i).block, (a.add i).off + j, none⟩ := by
  unfold Addr.add
  by_cases hi : i = 0
  · subst hi; simp; intro h; omega
  · simp [hi]; omega
theorem SsIn.at_ (h : SsIn w B A n l) (hk : k < n) :
    ∃ ad q, A = some ad ∧ ad.block < B ∧ l[k]? = some q ∧ w.cell? (ad.add (k * 6)) = some (.int .i64 q.kind) ∧ w.cell? ⟨(ad.add (k * 6)).block, (ad.add (k * 6)).off + 1, none⟩ = some (.string q.name) ∧ w.cell? ⟨(ad.add (k * 6)).block, (ad.add (k * 6)).off + 2, none⟩ = some (.int .i64 q.ver) ∧
      w.cell? ⟨(ad.add (k * 6)).block, (ad.add (k * 6)).off + 3, none⟩ = some (.string q.dest) ∧ w.cell? ⟨(ad.add (k * 6)).block, (ad.add (k * 6)).off + 4, none⟩ = some (.int .i64 q.a) ∧ w.cell? ⟨(ad.add (k * 6)).block, (ad.add (k * 6)).off + 5, none⟩ = some (.int .i64 q.b) := by
  have hl := h.len
  obtain ⟨ad, hA, hb, hc⟩ := h.2 (by omega)
  have hk2 : k < l.length := by omega
  obtain ⟨g0, g1, g2, g3, g4, g5⟩ := sps_get l k l[k] (by simp)
  refine ⟨ad, l[k], hA, hb, by simp, hc _ _ g0, ?_, ?_, ?_, ?_, ?_⟩
  · rw [← addr_any ad _ 1 (by omega)]; exact hc _ _ g1
  · rw [← addr_any ad _ 2 (by omega)]; exact hc _ _ g2
  · rw [← addr_any ad _ 3 (by omega)]; exact hc _ _ g3
  · rw [← addr_any ad _ 4 (by omega)]; exact hc _ _ g4
  · rw [← addr_any ad _ 5 (by omega)]; exact hc _ _ g5
theorem SsIn.nil (w : World) (B : Nat) (A : Option Addr) : SsIn w B A 0 [] := ⟨rfl, fun h => absurd h (by omega)⟩
end
end Go.Proofs.YtdmejcfnolhplaaGreat.Fact
/-
  Lists of clashes whose rows' types are told, and a step as it is handed over. No condition.
-/
namespace Go.Proofs.YtdmejcfnolhplaaGreat.Fact
open Go Go.RowKit Go.Lib Go.Proofs.YtdmejcfnolhplaaGreat.Span Go.Proofs.YtdmejcfnolhplaaGreat.Need Go.Proofs.YtdmejcfnolhplaaGreat.Mani Go.Proofs.YtdmejcfnolhplaaGreat.Grow Go.Proofs.YtdmejcfnolhplaaGreat.Term Go.Proofs.YtdmejcfnolhplaaGreat.Clash
set_option linter.unusedVariables false
theorem one_sliceJ (A : Option Addr) (n c : Nat) : ∀ u ∈ [Value.slice A n c], u.oneCell' = true := by
  intro u hu
  rw [List.mem_singleton.1 hu]; rfl
def FcR (w : World) (A : Option Addr) (n : Nat) (L : List (List Tm)) : Prop := ∃ vs : List Value, Reads w w.heap.size 1 A n vs ∧ AllF w vs L
section
variable {w w' : World} {B n k : Nat} {A : Option Addr} {L : List (List Tm)} {v : Value} {vs : List Value}
theorem FcR.len (h : FcR w A n L) : L.length = n := by
  obtain ⟨vs, h1, h2⟩ := h
  have := h1.1
  have := h2.1
  omega
theorem FcR.at_ (h : FcR w A n L) (hk : k < n) : ∃ ad c A' n' c', A = some ad ∧ ad.block < w.heap.size ∧ L[k]? = some c ∧ TmR w w.heap.size A' n' c ∧ w.cell? (ad.add k) = some (.slice A' n' c') := by
  have hl := h.len
  obtain ⟨vs, h1, h2, h3⟩ := h
  obtain ⟨ad, hA, hb, hc⟩ := h1.2 (by omega)
  have hr : k < vs.length := by rw [h2]; omega
  obtain ⟨A', n', c', e, ht⟩ := h3 k vs[k] (L[k]'(by omega)) (by simp) (by simp)
  refine ⟨ad, L[k]'(by omega), A', n', c', hA, hb, by simp, ht, ?_⟩
  rw [← e]
  exact hc k _ (by simp)
theorem FcR.on (h : FcR w A n L) (hb : Below w.heap.size w w') : FcR w' A n L := by
  obtain ⟨vs, h1, h2⟩ := h
  exact ⟨vs, (h1.below hb).more hb.size, h2.mono fun _ _ _ hs => hs.on hb⟩
theorem FcR.fc (h : FcR w A n L) : FcOn w A n L := by
  obtain ⟨vs, h1, h2, h3⟩ := h
  exact ⟨vs, h1, h2, fun i v c hv hc => by
    obtain ⟨A', n', c', e, ht⟩ := h3 i v c hv hc
    exact ⟨A', n', c', e, ht.in_⟩⟩
theorem Fcs.toldR (h : Fcs w B v n vs L) : ∃ A c, v = .slice A n c ∧ n ≤ c ∧ FcR w A n L := by
  obtain ⟨A, c, rfl, hc, _, hr⟩ := own_form h.1
  exact ⟨A, c, rfl, hc, vs, hr, h.2⟩
end
end Go.Proofs.YtdmejcfnolhplaaGreat.Fact
/-
  Contracts of the document's Check, Same and Find of clashes. Condition: the slices read as terms, of names of at most 1,000,000,000 bytes and sets of at most 1,000,000,001 spans.
-/
namespace Go.Proofs.YtdmejcfnolhplaaGreat.Clash
open Go.Proofs.YtdmejcfnolhplaaGreat.Pick (triP empty_lt fit_some)
open Go Go.RowKit Go.Lib Go.Proofs.YtdmejcfnolhplaaGreat.Span Go.Proofs.YtdmejcfnolhplaaGreat.Need Go.Proofs.YtdmejcfnolhplaaGreat.Grow Go.Proofs.YtdmejcfnolhplaaGreat.Term
open Go.Proofs.YtdmejcfnolhplaaGreat.Label (runes fitL)
set_option linter.unusedVariables false
theorem cell_in {w : World} {p : Addr} {v : Value} (h : w.cell? p = some v) (hp : p.block < w.heap.size) (d : Nat) (os : Array Obj) : (Sort.grow (redrawn w d) os).cell? p = some v :=
  ((below_regrown w d os).cell hp).trans h
end Go.Proofs.YtdmejcfnolhplaaGreat.Clash
/-
  Contracts of the document's Same, Holds, Show and Find of clashes. Condition: the slices read as terms; for Holds sets; for Show at most 1,000 spans each, at most 1,000 terms.
-/
namespace Go.Proofs.YtdmejcfnolhplaaGreat.Clash
open Go.Proofs.YtdmejcfnolhplaaGreat.Pick (Pk PkOn getP refGetP_any)
open Go Go.RowKit Go.Lib Go.Proofs.YtdmejcfnolhplaaGreat.Span Go.Proofs.YtdmejcfnolhplaaGreat.Need Go.Proofs.YtdmejcfnolhplaaGreat.Grow Go.Proofs.YtdmejcfnolhplaaGreat.Term
open Go.Proofs.YtdmejcfnolhplaaGreat.Label (runes fitL)
set_option linter.unusedVariables false
def ShortT (l : List Tm) : Prop := ∀ t ∈ l, t.set.length ≤ 1000000001
theorem holdsT_is (q : St) (t : Tm) : holdsT q t = if (q t.name).isSome = true then has t.set ((q t.name).getD 0) else t.none := by
  unfold holdsT
  cases q t.name <;> simp
set_option maxHeartbeats 8000000 in
set_option maxRecDepth 100000 in
theorem refHoldsC_any (l : List Tm) (k : List Pk) (A Ak : Option Addr) (n c nk ck : Nat) (w : World) (h : TmOn w A n l) (hk : PkOn w Ak nk k) (hs : ∀ t ∈ l, isSet (-1) t.set = true) (hn : n ≤ 1000000) (hnk : nk ≤ 1000000) :
    Calls Tryz.prog 22 #[.slice A n c, .slice Ak nk ck] w fun e w' => e = .returned (.bool (holdsC (getP k) l)) ∧ Below w.heap.size w w' := by
  have hlen := hide h.len
  have Hd := hide (fun i t => @holds_drop (getP k) l t i)
  have Hend : Hid (holdsC (getP k) (l.drop n) = true) := hide (by rw [List.drop_of_length_le (by have := hlen.out; omega)]; rfl)
  obtain ⟨F, hF⟩ : ∃ F, F = holdsC (getP k) l := ⟨_, rfl⟩
  rw [← hF]
  have HF : Hid (F = holdsC (getP k) (l.drop 0)) := hide hF
  clear hF
  go_enter Tryz.func22, Tryz.ntmps22
  go_wp2
  go_loopw [5] (fun v wr => ∃ i : Nat, i ≤ n ∧ v = .int .i64 (i : Int) ∧ Hid (F = holdsC (getP k) (l.drop i)) ∧ Below w.heap.size w wr) (fun v _ => n - (RowKit.intOf v).toNat)
  case atStart => exact ⟨0, by omega, rfl, HF, Below.refl _ _⟩
  case round =>
    obtain ⟨i, hi, rfl, hf, hb⟩ := hrel
    have hbs := hb.size
    by_cases hlt : i < n
    · obtain ⟨ad, t, A1, n1, c1, rfl, hbl, hx, hst, p1, p2, p3⟩ := TmIn.at_ (TmIn.below h hb) hlt
      have hset := hs t (List.mem_of_getElem? hx)
      have hsl := len_le hset
      have g1 := hst.1
      have hd := hf.out.trans (Hd.out i t hx)
      rw [holdsT_is] at hd
      have HG := hide (refGetP_any k t.name Ak nk ck wr (hk.on hb) hnk)
      have HH : Hid (Calls Tryz.prog 39 #[.agg #[.string t.name, .slice A1 n1 c1, .bool t.none], .int .i64 ((getP k t.name).getD 0), .bool (getP k t.name).isSome] wr fun e w' => e = .returned (.bool (if (getP k t.name).isSome = true then has t.set ((getP k t.name).getD 0) else t.none)) ∧ Below wr.heap.size wr w') := hide (by
        have := refHasT_any t.name t.set t.none A1 n1 c1 wr (hst.more hbs) ((getP k t.name).getD 0) (getP k t.name).isSome (by omega) hset
        unfold Tells at this
        exact this)
      clear hx hst hset hsl g1 hf Hd Hend HF h hk hs
      generalize (if (getP k t.name).isSome = true then has t.set ((getP k t.name).getD 0) else t.none) = b at *
      generalize (getP k t.name).isSome = is at *
      generalize (getP k t.name).getD 0 = z at *
      cases b with
      | false =>
        have e : Hid (F = false) := hide (by rw [hd]; rfl)
        clear hd
        go_wp2_with (first
          | (go_at_call 38
             refine HG.out.mono ?_
             rintro e W0 ⟨rfl, rfl⟩)
          | (go_at_call 39
             refine HH.out.mono ?_
             rintro e w1 ⟨rfl, hb1⟩))
        go_ret
        exact ⟨by rw [e.out]; rfl, hb.trans (hb1.mono hbs)⟩
      | true =>
        have e : Hid (F = holdsC (getP k) (l.drop (i + 1))) := hide (by rw [hd]; rfl)
        clear hd
        go_wp2_with (first
          | (go_at_call 38
             refine HG.out.mono ?_
             rintro e W0 ⟨rfl, rfl⟩)
          | (go_at_call 39
             refine HH.out.mono ?_
             rintro e w1 ⟨rfl, hb1⟩))
        go_roundw
        case rel => exact ⟨i + 1, by omega, by go_num, e, hb.trans (hb1.mono hbs)⟩
        case measure => simp [RowKit.intOf]; omega
    · have hi2 : i = n := by omega
      have e : Hid (F = true) := hide (by rw [hf.out, hi2]; exact Hend.out)
      clear hf HF Hd Hend h
      go_wp2
      go_ret
      exact ⟨by rw [e.out]; rfl, hb⟩
theorem three_at {w0 w : World} {B g : Nat} (h : Below B w0 w) (hg : B ≤ g) (u v x : Value) : Below B w0 (((w.setCell ⟨g, 0, none⟩ u).setCell ⟨g, 1, none⟩ v).setCell ⟨g, 2, none⟩ x) :=
  ((h.setCell hg u).setCell hg v).setCell hg x
def FindsT (w : World) (t : Tm) (is : Bool) (e : Ending) (w' : World) : Prop := ∃ A n c, e = .returned (.tuple #[.agg #[.string t.name, .slice A n c, .bool t.none], .bool is]) ∧ SpOn w' A n t.set ∧ Below w.heap.size w w'
theorem term_size : (Tryz.prog.info? 77).map (·.size) = some 3 := by kernel_rfl
theorem results_row_tmp {P : Program} {fn : Func} {p u : Tmp} {ty : TypeId} (h : fn.results = #[.cell p ty, .tmp u]) (tmps : Array Value) (w : World) (g : Nat) (t : TypeId) (cs : Array Value) (fr : Nat × Nat) (d : TypeDesc) (v : Value)
    (hp : tmps.getD p undef = .pointer (some ⟨g, 0, none⟩)) (hv : tmps.getD u undef = v) (hg : w.heap[g]? = some (.cells cs t fr))
    (hu : P.underlying ty = some d) (hd : (match d with | .struct _ | .array _ _ => true | _ => false) = true) (hi : (P.info? ty).map (·.size) = some cs.size) :
    (results fn tmps).run P w = .ok (.tuple #[.agg cs, v]) w := by
  rw [results_cell_tmp h]
  simp only [hp, hv, asAddr, Sem.run_pure, Result.andThen_ok, run_loadVar_row w g t ty cs fr d hg hu hd hi]
end Go.Proofs.YtdmejcfnolhplaaGreat.Clash
/-
  Contracts of the document's Make and Join of clashes. Condition: terms that may be, of at most 10,000 spans together (for Join: 5,000), at most 1,000 of them.
-/
namespace Go.Proofs.YtdmejcfnolhplaaGreat.Clash
open Go.Proofs.YtdmejcfnolhplaaGreat.Pick (triP)
open Go Go.RowKit Go.Lib Go.Proofs.YtdmejcfnolhplaaGreat.Span Go.Proofs.YtdmejcfnolhplaaGreat.Need Go.Proofs.YtdmejcfnolhplaaGreat.Grow Go.Proofs.YtdmejcfnolhplaaGreat.Term
open Go.Proofs.YtdmejcfnolhplaaGreat.Label (runes fitL)
set_option linter.unusedVariables false
theorem own_one (w : World) (nm : ByteArray) (A : Option Addr) (n c : Nat) (z : Bool) (B : Nat) (hB : B ≤ w.heap.size) :
    (w.alloc (.cells #[.string nm, .slice A n c, .bool z] 77)).ownsRow B 77 3 (.slice (some ⟨w.heap.size, 0, none⟩) 1 1) 1 (tms [(nm, .slice A n c, z)]) :=
  ⟨rfl, .inr ⟨w.heap.size, 1, _, rfl, hB, heap_alloc_new w _, Nat.le_refl _, by decide, rfl, rfl⟩⟩
theorem left_step {P out : List Tm} {x : Tm} {i : Nat} {F : Option (List Tm)} (hF : (leftC (P.drop i)).map (fun q => out ++ q) = F) (hx : P[i]? = some x) :
    (emptyT x = true → F = none) ∧ (emptyT x = false → fullT x = true → (leftC (P.drop (i + 1))).map (fun q => out ++ q) = F) ∧ (emptyT x = false → fullT x = false → (leftC (P.drop (i + 1))).map (fun q => (out ++ [x]) ++ q) = F) := by
  rw [left_drop hx] at hF
  refine ⟨fun h => ?_, fun h h' => ?_, fun h h' => ?_⟩
  · rw [← hF, if_pos h]; rfl
  · rw [← hF, if_neg (by rw [h]; simp)]
    cases leftC (P.drop (i + 1)) <;> simp [h']
  · rw [← hF, if_neg (by rw [h]; simp)]
    cases leftC (P.drop (i + 1)) <;> simp [h']
theorem sum_drop (l : List Tm) (n : ByteArray) : sumC (dropC l n) ≤ sumC l := by
  induction l with
  | nil => simp [dropC, sumC]
  | cons x r ih =>
    unfold dropC at *
    rw [List.filter_cons, sumC_cons]
    split
    · rw [sumC_cons]; omega
    · omega
theorem find_isSome {l : List Tm} {n : ByteArray} {x : Tm} (h : findC l n = some x) : foundC l n = x := by unfold foundC; rw [h]; rfl
end Go.Proofs.YtdmejcfnolhplaaGreat.Clash
/-
  What the program's functions of clashes have to tell, one sentence each, as premises; the statements' Large. Condition: none of its own.
-/
namespace Go.Proofs.YtdmejcfnolhplaaGreat.Clash
open Go.Proofs.YtdmejcfnolhplaaGreat.Pick (Pk PkOn getP okP)
open Go Go.RowKit Go.Lib Go.Proofs.YtdmejcfnolhplaaGreat.Span Go.Proofs.YtdmejcfnolhplaaGreat.Need Go.Proofs.YtdmejcfnolhplaaGreat.Grow Go.Proofs.YtdmejcfnolhplaaGreat.Term
open Go.Proofs.YtdmejcfnolhplaaGreat.Label (runes fitL)
set_option linter.unusedVariables false
def FineC (l : List Tm) : Prop := l.length ≤ 1000 ∧ sumC l ≤ 10000 ∧ ∀ t ∈ l, t.name.size ≤ 1000000000
def SpecFindC : Prop := ∀ (l : List Tm) (nm : ByteArray) (A : Option Addr) (n c : Nat) (w : World), TmOn w A n l → FineC l → okC l = true → nm.size ≤ 1000000000 → Calls Tryz.prog 80 #[.slice A n c, .string nm] w (FindsT w (foundC l nm) (findC l nm).isSome)
end Go.Proofs.YtdmejcfnolhplaaGreat.Clash
