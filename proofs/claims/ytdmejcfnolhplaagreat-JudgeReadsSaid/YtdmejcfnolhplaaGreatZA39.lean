/-
  Some texts of this claim, one behind the other: FactCells, JudgeCells, ClashRefCheck, ClashRefPut, FactRefPut. What each proves, and its condition, stands at its head.
-/
import Derived.Test.YtdmejcfnolhplaaGreatZA37
import Derived.Test.YtdmejcfnolhplaaGreatZA21
import Derived.Test.YtdmejcfnolhplaaGreatZA19
import Derived.Laws.Cover1
import Derived.Test.YtdmejcfnolhplaaGreatZA38
import Derived.Test.YtdmejcfnolhplaaGreatZA3
/-
  Slices of terms whose rows' types are told (so that they stay where a row of another type is written); lists of clashes, and lists of steps, in memory: as they came in, and as a call makes them. No condition.
-/
namespace Go.Proofs.YtdmejcfnolhplaaGreat.Fact
open Go Go.RowKit Go.Lib Go.Proofs.YtdmejcfnolhplaaGreat.Span Go.Proofs.YtdmejcfnolhplaaGreat.Need Go.Proofs.YtdmejcfnolhplaaGreat.Mani Go.Proofs.YtdmejcfnolhplaaGreat.Grow Go.Proofs.YtdmejcfnolhplaaGreat.Term Go.Proofs.YtdmejcfnolhplaaGreat.Clash
set_option linter.unusedVariables false
theorem insLow {w wx : World} {B n : Nat} {A : Option Addr} {l : List S} (h : SpIn w B A n l) (ht : InS w 0 A n l) (hB : B ≤ w.heap.size) (hb : Below B w wx) (hs : w.heap.size ≤ wx.heap.size) : InS wx 0 A n l :=
  ⟨(h.below hb).more (by omega), fun ad hA hn => by
    obtain ⟨ad', hA', hlt, _⟩ := h.2 hn
    rw [hA] at hA'
    injection hA' with hA'
    subst hA'
    rcases ht.2 ad hA hn with h1 | ⟨cur, m, h1⟩
    · omega
    · exact .inr ⟨cur, m, (hb.block _ hlt).trans h1⟩⟩
def TmR (w : World) (B : Nat) (A : Option Addr) (n : Nat) (l : List Tm) : Prop :=
  ∃ rs, Reads w B 3 A n (tms rs) ∧ FitsT w B rs l ∧ (∀ ad, A = some ad → 0 < n → ∃ cur m, w.heap[ad.block]? = some (.cells cur 77 m)) ∧ AllT w 0 rs l
section
variable {w w' wx : World} {B B' n k : Nat} {A : Option Addr} {l : List Tm}
theorem TmR.in_ (h : TmR w B A n l) : TmIn w B A n l := by obtain ⟨rs, h1, h2, _⟩ := h; exact ⟨rs, h1, h2⟩
theorem TmR.len (h : TmR w B A n l) : l.length = n := h.in_.len
theorem TmR.nil (w : World) (B : Nat) (A : Option Addr) : TmR w B A 0 [] := ⟨[], ⟨rfl, fun h => absurd h (by omega)⟩, ⟨rfl, fun i r q hr _ => by simp at hr⟩, fun _ _ h => absurd h (by omega), rfl, fun i r q hr _ => by simp at hr⟩
theorem TmR.below (h : TmR w B A n l) (hb : Below B w w') (hB : B ≤ w.heap.size) (hs : w.heap.size ≤ w'.heap.size) : TmR w' B A n l := by
  obtain ⟨rs, h1, h2, h3, h4⟩ := h
  refine ⟨rs, h1.below hb, h2.below hb, fun ad hA hn => ?_, h4.1, fun i r q hr hq => ?_⟩
  · obtain ⟨ad', hA', hlt, _⟩ := h1.2 hn
    rw [hA] at hA'
    injection hA' with hA'
    subst hA'
    obtain ⟨cur, m, g⟩ := h3 ad hA hn
    exact ⟨cur, m, (hb.block _ hlt).trans g⟩
  · obtain ⟨e1, e3, A1, n1, c1, e2, hs1⟩ := h2.2 i r q hr hq
    obtain ⟨_, _, A2, n2, c2, e4, hs2⟩ := h4.2 i r q hr hq
    rw [e2] at e4
    injection e4 with f1 f2 f3
    subst f1 f2 f3
    exact ⟨e1, e3, A1, n1, c1, e2, insLow hs1 hs2 hB hb hs⟩
theorem TmR.more (h : TmR w B A n l) (hb : B ≤ B') : TmR w B' A n l := by
  obtain ⟨rs, h1, h2, h3, h4⟩ := h
  exact ⟨rs, h1.more hb, h2.more hb, h3, h4⟩
theorem TmR.on (h : TmR w w.heap.size A n l) (hb : Below w.heap.size w w') : TmR w' w'.heap.size A n l := (TmR.below h hb (Nat.le_refl _) hb.size).more hb.size
theorem TmR.far {row : Option Nat} (h : TmR w w.heap.size A n l) (h1 : FarT w 67 row) (h2 : FarT w 77 row) (hg : w.grownBy w' row) : TmR w' w'.heap.size A n l := by
  obtain ⟨rs, g1, g2, g3, g4⟩ := h
  have h4 : AllT w' 0 rs l := g4.mono fun _ _ _ hs => insFar hs h1 hg
  have blk : ∀ ad, A = some ad → 0 < n → w'.heap[ad.block]? = w.heap[ad.block]? := fun ad hA hn => by
    obtain ⟨ad', hA', hlt, _⟩ := g1.2 hn
    rw [hA] at hA'
    injection hA' with hA'
    subst hA'
    obtain ⟨cur, k, h5⟩ := g3 ad hA hn
    exact hg.block _ hlt (h2 _ _ _ h5)
  refine ⟨rs, ⟨g1.1, fun hn => ?_⟩, ⟨h4.1, fun i r q hr hq => ?_⟩, fun ad hA hn => ?_, h4⟩
  · obtain ⟨ad, hA, hlt, hc⟩ := g1.2 hn
    exact ⟨ad, hA, Nat.lt_of_lt_of_le hlt hg.size, fun j u hu => (World.cell?_of_block (by rw [block_of_add]; exact blk ad hA hn)).trans (hc j u hu)⟩
  · obtain ⟨e1, e3, A1, n1, c1, e2, hs⟩ := h4.2 i r q hr hq
    exact ⟨e1, e3, A1, n1, c1, e2, hs.1⟩
  · obtain ⟨cur, k, h5⟩ := g3 ad hA hn
    exact ⟨cur, k, (blk ad hA hn).trans h5⟩
theorem TmR.at_ (h : TmR w B A n l) (hk : k < n) :
    ∃ ad q A' n' c', A = some ad ∧ ad.block < B ∧ l[k]? = some q ∧ SpIn w B A' n' q.set ∧ w.cell? (ad.add (k * 3)) = some (.string q.name) ∧ w.cell? ⟨(ad.add (k * 3)).block, (ad.add (k * 3)).off + 1, none⟩ = some (.slice A' n' c') ∧ w.cell? ⟨(ad.add (k * 3)).block, (ad.add (k * 3)).off + 2, none⟩ = some (.bool q.none) ∧ InS w 0 A' n' q.set := by
  have hl := h.len
  obtain ⟨rs, h1, h2, h3, h4⟩ := h
  obtain ⟨ad, hA, hb, hc⟩ := h1.2 (by omega)
  have hr : k < rs.length := by rw [h2.1]; omega
  obtain ⟨e1, e3, A', n', c', e2, hs⟩ := h2.2 k rs[k] (l[k]'(by omega)) (by simp) (by simp)
  obtain ⟨_, _, A2, n2, c2, e4, hs2⟩ := h4.2 k rs[k] (l[k]'(by omega)) (by simp) (by simp)
  rw [e2] at e4
  injection e4 with f1 f2 f3
  subst f1 f2 f3
  obtain ⟨g1, g2, g3⟩ := tms_get rs k rs[k] (by simp)
  refine ⟨ad, l[k]'(by omega), A', n', c', hA, hb, by simp, hs, ?_, ?_, ?_, hs2⟩
  · rw [← e1]; exact hc _ _ g1
  · rw [← add_field, ← e2]; exact hc _ _ g2
  · rw [← add_two, ← e3]; exact hc _ _ g3
end
def TmsR (w : World) (B : Nat) (v : Value) (n : Nat) (rs : List Rt) (l : List Tm) : Prop := w.ownsRow B 77 3 v n (tms rs) ∧ AllT w 0 rs l
section
variable {w w' w1 w2 : World} {B n m : Nat} {v v1 x : Value} {rs rs2 : List Rt} {l l2 out : List Tm} {t : Tm}
theorem TmsR.nil_ (w : World) (B : Nat) : TmsR w B (.slice none 0 0) 0 [] [] := ⟨World.ownsRow_nil w B _ 3, rfl, fun i r q hr _ => by simp at hr⟩
theorem TmsR.below (h : TmsR w B v n rs l) (hb : Below w.heap.size w w') : TmsR w' B v n rs l := ⟨own_below h.1 hb, h.2.mono fun _ _ _ hs => hs.below hb⟩
theorem TmsR.cat (h : TmsR w B v n rs l) (h2 : AllT w 0 rs2 l2) (h1 : w1.ownsRow B 77 3 v1 m (tms rs ++ tms rs2)) (hg : w.grownBy w1 v.ownBlock) : TmsR w1 B v1 m (rs ++ rs2) (l ++ l2) :=
  ⟨by rw [tms_append]; exact h1, (h.2.append h2).mono fun _ _ _ hs => insFar hs (farT_own h.1 (by decide)) hg⟩
theorem TmsR.len (h : TmsR w B v n rs l) : l.length = n := by
  have := h.1.1
  rw [tms_length] at this
  have := h.2.1
  omega
theorem TmsR.told (h : TmsR w B v n rs l) : ∃ A c, v = .slice A n c ∧ n ≤ c ∧ TmR w w.heap.size A n l := by
  obtain ⟨A, c, rfl, hc, _, hr⟩ := own_form h.1
  refine ⟨A, c, rfl, hc, rs, hr, ⟨h.2.1, fun i r q hr hq => ?_⟩, fun ad hA hn => ?_, h.2⟩
  · obtain ⟨e1, e3, A, n, c, e2, hs⟩ := h.2.2 i r q hr hq
    exact ⟨e1, e3, A, n, c, e2, hs.1⟩
  · rcases h.1.2 with ⟨e, _⟩ | ⟨g, cap, cur, e, hB, hgg, _⟩
    · injection e with e1 e2 e3
      omega
    · injection e with e1 e2 e3
      rw [hA] at e1
      injection e1 with e1
      subst e1
      exact ⟨cur, _, hgg⟩
def putsTR (B n : Nat) (rs : List Rt) (x : Value) (t : Tm) : Wr := fun w1 v w2 =>
  ∃ A' n' c', InS w1 0 A' n' t.set ∧ w2.ownsRow B 77 3 v (n + 1) (tms rs ++ tms [(t.name, .slice A' n' c', t.none)]) ∧ w1.grownBy w2 x.ownBlock
theorem putsTR_told (hN : TmsR w1 B x n rs out) (h : putsTR B n rs x t w1 v w2) : ∃ rs', TmsR w2 B v (n + 1) rs' (out ++ [t]) := by
  obtain ⟨A', n', c', hI, hown, hg⟩ := h
  exact ⟨_, hN.cat (AllT.one hI) hown hg⟩
theorem putsTR_slice (h : putsTR B n rs x t w1 v w2) : ∃ A c, v = .slice A (n + 1) c := by
  obtain ⟨A', n', c', hI, hown, hg⟩ := h
  obtain ⟨A, c, e, _⟩ := own_form hown
  exact ⟨A, c, e⟩
theorem putsTR_below {C : Nat} (hN : TmsR w1 B x n rs out) (hb : Below C w w1) (hC : C ≤ B) (hB : C ≤ w1.heap.size) (h : putsTR B n rs x t w1 v w2) : Below C w w2 := by
  obtain ⟨A', n', c', hI, hown, hg⟩ := h
  exact hb.grown hg hB fun k hk => by have := (hN.1.lt k hk).1; omega
end
def MakesR (w : World) (r : Option (List Tm)) (e : Ending) (w' : World) : Prop := ∃ A n c, e = .returned (.tuple #[.slice A n c, .bool r.isSome]) ∧ TmR w' w'.heap.size A n (r.getD []) ∧ Below w.heap.size w w'
/-! Lists of clashes. -/
theorem info_terms : (Tryz.prog.info? 41).map (fun i => (i.zero, i.size, i.bytes)) = some (some (.slice none 0 0), 1, 24) := by kernel_rfl
def FcIn (w : World) (B : Nat) (A : Option Addr) (n : Nat) (L : List (List Tm)) : Prop :=
  ∃ vs : List Value, Reads w B 1 A n vs ∧ vs.length = L.length ∧ ∀ (i : Nat) (v : Value) (c : List Tm), vs[i]? = some v → L[i]? = some c → ∃ A' n' c', v = .slice A' n' c' ∧ TmIn w B A' n' c
section
variable {w w' w1 : World} {B B' n m k : Nat} {A : Option Addr} {L L2 : List (List Tm)} {v v1 : Value} {vs vs2 : List Value}
theorem FcIn.len (h : FcIn w B A n L) : L.length = n := by
  obtain ⟨vs, h1, h2, _⟩ := h
  have := h1.1
  omega
theorem FcIn.at_ (h : FcIn w B A n L) (hk : k < n) : ∃ ad c A' n' c', A = some ad ∧ ad.block < B ∧ L[k]? = some c ∧ TmIn w B A' n' c ∧ w.cell? (ad.add k) = some (.slice A' n' c') := by
  have hl := h.len
  obtain ⟨vs, h1, h2, h3⟩ := h
  obtain ⟨ad, hA, hb, hc⟩ := h1.2 (by omega)
  have hr : k < vs.length := by rw [h2]; omega
  obtain ⟨A', n', c', e, ht⟩ := h3 k vs[k] (L[k]'(by omega)) (by simp) (by simp)
  refine ⟨ad, L[k]'(by omega), A', n', c', hA, hb, by simp, ht, ?_⟩
  rw [← e]
  exact hc k _ (by simp)
theorem FcIn.below (h : FcIn w B A n L) (hb : Below B w w') : FcIn w' B A n L := by
  obtain ⟨vs, h1, h2, h3⟩ := h
  refine ⟨vs, h1.below hb, h2, fun i v c hv hc => ?_⟩
  obtain ⟨A', n', c', e, ht⟩ := h3 i v c hv hc
  exact ⟨A', n', c', e, ht.below hb⟩
theorem FcIn.more (h : FcIn w B A n L) (hb : B ≤ B') : FcIn w B' A n L := by
  obtain ⟨vs, h1, h2, h3⟩ := h
  refine ⟨vs, h1.more hb, h2, fun i v c hv hc => ?_⟩
  obtain ⟨A', n', c', e, ht⟩ := h3 i v c hv hc
  exact ⟨A', n', c', e, ht.more hb⟩
theorem FcIn.nil (w : World) (B : Nat) (A : Option Addr) : FcIn w B A 0 [] := ⟨[], ⟨rfl, fun h => absurd h (by omega)⟩, rfl, fun i v c hv _ => by simp at hv⟩
def AllF (w : World) (vs : List Value) (L : List (List Tm)) : Prop := vs.length = L.length ∧ ∀ (i : Nat) (v : Value) (c : List Tm), vs[i]? = some v → L[i]? = some c → ∃ A' n' c', v = .slice A' n' c' ∧ TmR w w.heap.size A' n' c
theorem AllF.mono (h : AllF w vs L) (hk : ∀ A n l, TmR w w.heap.size A n l → TmR w' w'.heap.size A n l) : AllF w' vs L := ⟨h.1, fun i v c hv hc => by
  obtain ⟨A', n', c', e, ht⟩ := h.2 i v c hv hc
  exact ⟨A', n', c', e, hk _ _ _ ht⟩⟩
theorem AllF.append (h : AllF w vs L) (h2 : AllF w vs2 L2) : AllF w (vs ++ vs2) (L ++ L2) :=
  ⟨by simp [h.1, h2.1], fun i r q hr hq => by
    rcases Nat.lt_or_ge i vs.length with hi | hi
    · rw [List.getElem?_append_left hi] at hr
      rw [List.getElem?_append_left (by rw [← h.1]; exact hi)] at hq
      exact h.2 i r q hr hq
    · rw [List.getElem?_append_right hi] at hr
      rw [List.getElem?_append_right (by rw [← h.1]; exact hi), ← h.1] at hq
      exact h2.2 _ r q hr hq⟩
theorem AllF.one {c : List Tm} {k : Nat} (h : TmR w w.heap.size A n c) : AllF w [.slice A n k] [c] :=
  ⟨rfl, fun i r q hr hq => by
    rcases i with _ | i
    · simp at hr hq
      subst hr hq
      exact ⟨A, n, k, rfl, h⟩
    · simp at hr⟩
def Fcs (w : World) (B : Nat) (v : Value) (n : Nat) (vs : List Value) (L : List (List Tm)) : Prop := w.ownsRow B 41 1 v n vs ∧ AllF w vs L
theorem Fcs.nil_ (w : World) (B : Nat) : Fcs w B (.slice none 0 0) 0 [] [] := ⟨World.ownsRow_nil w B _ 1, rfl, fun i r q hr _ => by simp at hr⟩
theorem Fcs.below (h : Fcs w B v n vs L) (hb : Below w.heap.size w w') : Fcs w' B v n vs L := ⟨own_below h.1 hb, h.2.mono fun _ _ _ hs => hs.on hb⟩
theorem Fcs.cat (h : Fcs w B v n vs L) (h2 : AllF w vs2 L2) (h1 : w1.ownsRow B 41 1 v1 m (vs ++ vs2)) (hg : w.grownBy w1 v.ownBlock) : Fcs w1 B v1 m (vs ++ vs2) (L ++ L2) :=
  ⟨h1, (h.2.append h2).mono fun _ _ _ hs => hs.far (farT_own h.1 (by decide)) (farT_own h.1 (by decide)) hg⟩
theorem Fcs.told (h : Fcs w B v n vs L) : ∃ A c, v = .slice A n c ∧ n ≤ c ∧ FcIn w w.heap.size A n L := by
  obtain ⟨A, c, rfl, hc, _, hr⟩ := own_form h.1
  exact ⟨A, c, rfl, hc, vs, hr, h.2.1, fun i v c hv hc => by
    obtain ⟨A', n', c', e, ht⟩ := h.2.2 i v c hv hc
    exact ⟨A', n', c', e, ht.in_⟩⟩
end
def FcOn (w : World) (A : Option Addr) (n : Nat) (L : List (List Tm)) : Prop := FcIn w w.heap.size A n L
theorem FcOn.on {w w' : World} {A : Option Addr} {n : Nat} {L : List (List Tm)} (h : FcOn w A n L) (hb : Below w.heap.size w w') : FcOn w' A n L := (FcIn.below h hb).more hb.size
/-! Lists of steps. -/
abbrev Sp := Proof.Sp
def sps : List Sp → List Value
  | [] => []
  | q :: t => .int .i64 q.kind :: .string q.name :: .int .i64 q.ver :: .string q.dest :: .int .i64 q.a :: .int .i64 q.b :: sps t
theorem sps_length (l : List Sp) : (sps l).length = l.length * 6 := by
  induction l with
  | nil => rfl
  | cons s t ih => simp [sps, ih]; omega
theorem sps_get (l : List Sp) : ∀ (i : Nat) (q : Sp), l[i]? = some q → (sps l)[i * 6]? = some (.int .i64 q.kind) ∧ (sps l)[i * 6 + 1]? = some (.string q.name) ∧ (sps l)[i * 6 + 2]? = some (.int .i64 q.ver) ∧ (sps l)[i * 6 + 3]? = some (.string q.dest) ∧ (sps l)[i * 6 + 4]? = some (.int .i64 q.a) ∧ (sps l)[i * 6 + 5]? = some (.int .i64 q.b) := by
  induction l with
  | nil => intro i s h; simp at h
  | cons x t ih =>
    intro i s h
    cases i with
    | zero => simp at h; subst h; exact ⟨rfl, rfl, rfl, rfl, rfl, rfl⟩
    | succ i =>
      rw [List.getElem?_cons_succ] at h
      have := ih i s h
      have e : (i + 1) * 6 = i * 6 + 1 + 1 + 1 + 1 + 1 + 1 := by omega
      rw [e]
      refine ⟨this.1, ?_, ?_, ?_, ?_, ?_⟩
      · rw [show i * 6 + 1 + 1 + 1 + 1 + 1 + 1 + 1 = (i * 6 + 1) + 1 + 1 + 1 + 1 + 1 + 1 by omega]; exact this.2.1
      · rw [show i * 6 + 1 + 1 + 1 + 1 + 1 + 1 + 2 = (i * 6 + 2) + 1 + 1 + 1 + 1 + 1 + 1 by omega]; exact this.2.2.1
      · rw [show i * 6 + 1 + 1 + 1 + 1 + 1 + 1 + 3 = (i * 6 + 3) + 1 + 1 + 1 + 1 + 1 + 1 by omega]; exact this.2.2.2.1
      · rw [show i * 6 + 1 + 1 + 1 + 1 + 1 + 1 + 4 = (i * 6 + 4) + 1 + 1 + 1 + 1 + 1 + 1 by omega]; exact this.2.2.2.2.1
      · rw [show i * 6 + 1 + 1 + 1 + 1 + 1 + 1 + 5 = (i * 6 + 5) + 1 + 1 + 1 + 1 + 1 + 1 by omega]; exact this.2.2.2.2.2
def SsIn (w : World) (B : Nat) (A : Option Addr) (n : Nat) (l : List Sp) : Prop := Reads w B 6 A n (sps l)
section
variable {w w' w1 : World} {B B' n m k : Nat} {A : Option Addr} {l : List Sp} {v v1 : Value}
theorem SsIn.len (h : SsIn w B A n l) : l.length = n := by
  have := h.1
  rw [sps_length] at this
  omega
theorem addr_any (a : Addr) (i j : Nat) (hj : 0 < j) : a.add (i + j) = ⟨(a.add i).block, (a.add i).off + j, none⟩ := by
  unfold Addr.add
  by_cases hi : i = 0
  · subst hi; simp; intro h; omega
  · simp [hi]; omega
theorem SsIn.at_ (h : SsIn w B A n l) (hk : k < n) :
    ∃ ad q, A = some ad ∧ ad.block < B ∧ l[k]? = some q ∧ w.cell? (ad.add (k * 6)) = some (.int .i64 q.kind) ∧ w.cell? ⟨(ad.add (k * 6)).block, (ad.add (k * 6)).off + 1, none⟩ = some (.string q.name) ∧ w.cell? ⟨(ad.add (k * 6)).block, (ad.add (k * 6)).off + 2, none⟩ = some (.int .i64 q.ver) ∧
      w.cell? ⟨(ad.add (k * 6)).block, (ad.add (k * 6)).off + 3, none⟩ = some (.string q.dest) ∧ w.cell? ⟨(ad.add (k * 6)).block, (ad.add (k * 6)).off + 4, none⟩ = some (.int .i64 q.a) ∧ w.cell? ⟨(ad.add (k * 6)).block, (ad.add (k * 6)).off + 5, none⟩ = some (.int .i64 q.b) := by
  have hl := h.len
  obtain ⟨ad, hA, hb, hc⟩ := h.2 (by omega)
  have hk2 : k < l.length := by omega
  obtain ⟨g0, g1, g2, g3, g4, g5⟩ := sps_get l k l[k] (by simp)
  refine ⟨ad, l[k], hA, hb, by simp, hc _ _ g0, ?_, ?_, ?_, ?_, ?_⟩
  · rw [← addr_any ad _ 1 (by omega)]; exact hc _ _ g1
  · rw [← addr_any ad _ 2 (by omega)]; exact hc _ _ g2
  · rw [← addr_any ad _ 3 (by omega)]; exact hc _ _ g3
  · rw [← addr_any ad _ 4 (by omega)]; exact hc _ _ g4
  · rw [← addr_any ad _ 5 (by omega)]; exact hc _ _ g5
theorem SsIn.nil (w : World) (B : Nat) (A : Option Addr) : SsIn w B A 0 [] := ⟨rfl, fun h => absurd h (by omega)⟩
end
end Go.Proofs.YtdmejcfnolhplaaGreat.Fact
/-
  Lists of clashes whose rows' types are told, and a step as it is handed over. No condition.
-/
namespace Go.Proofs.YtdmejcfnolhplaaGreat.Fact
open Go Go.RowKit Go.Lib Go.Proofs.YtdmejcfnolhplaaGreat.Span Go.Proofs.YtdmejcfnolhplaaGreat.Need Go.Proofs.YtdmejcfnolhplaaGreat.Mani Go.Proofs.YtdmejcfnolhplaaGreat.Grow Go.Proofs.YtdmejcfnolhplaaGreat.Term Go.Proofs.YtdmejcfnolhplaaGreat.Clash
set_option linter.unusedVariables false
theorem one_sliceJ (A : Option Addr) (n c : Nat) : ∀ u ∈ [Value.slice A n c], u.oneCell' = true := by
  intro u hu
  rw [List.mem_singleton.1 hu]; rfl
def FcR (w : World) (A : Option Addr) (n : Nat) (L : List (List Tm)) : Prop := ∃ vs : List Value, Reads w w.heap.size 1 A n vs ∧ AllF w vs L
section
variable {w w' : World} {B n k : Nat} {A : Option Addr} {L : List (List Tm)} {v : Value} {vs : List Value}
theorem FcR.len (h : FcR w A n L) : L.length = n := by
  obtain ⟨vs, h1, h2⟩ := h
  have := h1.1
  have := h2.1
  omega
theorem FcR.at_ (h : FcR w A n L) (hk : k < n) : ∃ ad c A' n' c', A = some ad ∧ ad.block < w.heap.size ∧ L[k]? = some c ∧ TmR w w.heap.size A' n' c ∧ w.cell? (ad.add k) = some (.slice A' n' c') := by
  have hl := h.len
  obtain ⟨vs, h1, h2, h3⟩ := h
  obtain ⟨ad, hA, hb, hc⟩ := h1.2 (by omega)
  have hr : k < vs.length := by rw [h2]; omega
  obtain ⟨A', n', c', e, ht⟩ := h3 k vs[k] (L[k]'(by omega)) (by simp) (by simp)
  refine ⟨ad, L[k]'(by omega), A', n', c', hA, hb, by simp, ht, ?_⟩
  rw [← e]
  exact hc k _ (by simp)
theorem FcR.on (h : FcR w A n L) (hb : Below w.heap.size w w') : FcR w' A n L := by
  obtain ⟨vs, h1, h2⟩ := h
  exact ⟨vs, (h1.below hb).more hb.size, h2.mono fun _ _ _ hs => hs.on hb⟩
theorem FcR.fc (h : FcR w A n L) : FcOn w A n L := by
  obtain ⟨vs, h1, h2, h3⟩ := h
  exact ⟨vs, h1, h2, fun i v c hv hc => by
    obtain ⟨A', n', c', e, ht⟩ := h3 i v c hv hc
    exact ⟨A', n', c', e, ht.in_⟩⟩
theorem Fcs.toldR (h : Fcs w B v n vs L) : ∃ A c, v = .slice A n c ∧ n ≤ c ∧ FcR w A n L := by
  obtain ⟨A, c, rfl, hc, _, hr⟩ := own_form h.1
  exact ⟨A, c, rfl, hc, vs, hr, h.2⟩
end
end Go.Proofs.YtdmejcfnolhplaaGreat.Fact
/-
  Contracts of the document's Check, Same and Find of clashes. Condition: the slices read as terms, of names of at most 1,000,000,000 bytes and sets of at most 1,000,000,001 spans.
-/
namespace Go.Proofs.YtdmejcfnolhplaaGreat.Clash
open Go.Proofs.YtdmejcfnolhplaaGreat.Pick (triP empty_lt fit_some)
open Go Go.RowKit Go.Lib Go.Proofs.YtdmejcfnolhplaaGreat.Span Go.Proofs.YtdmejcfnolhplaaGreat.Need Go.Proofs.YtdmejcfnolhplaaGreat.Grow Go.Proofs.YtdmejcfnolhplaaGreat.Term
open Go.Proofs.YtdmejcfnolhplaaGreat.Label (runes fitL)
set_option linter.unusedVariables false
theorem cell_in {w : World} {p : Addr} {v : Value} (h : w.cell? p = some v) (hp : p.block < w.heap.size) (d : Nat) (os : Array Obj) : (Sort.grow (redrawn w d) os).cell? p = some v :=
  ((below_regrown w d os).cell hp).trans h
end Go.Proofs.YtdmejcfnolhplaaGreat.Clash
/-
  The contract of the document's put: one more term put to others. Condition: sets of at most 10,000 spans where names are alike; at most 100,000 terms.
-/
namespace Go.Proofs.YtdmejcfnolhplaaGreat.Clash
open Go.Proofs.YtdmejcfnolhplaaGreat.Pick (triP)
open Go Go.RowKit Go.Lib Go.Proofs.YtdmejcfnolhplaaGreat.Span Go.Proofs.YtdmejcfnolhplaaGreat.Need Go.Proofs.YtdmejcfnolhplaaGreat.Grow Go.Proofs.YtdmejcfnolhplaaGreat.Term
open Go.Proofs.YtdmejcfnolhplaaGreat.Label (runes fitL)
set_option linter.unusedVariables false
theorem agg_inj3 {u v : Value} {A A' : Option Addr} {n c n' c' : Nat} (h : Value.agg #[u, .slice A n c, v] = .agg #[u, .slice A' n' c', v]) : A = A' ∧ n = n' ∧ c = c' := agg_inj h
theorem six_cells {w wx : World} {B g : Nat} {ad : Addr} {k : Nat} {u1 u2 u3 v1 v2 v3 : Value} (hb : Below B w wx) (had : ad.block < B) (hg : g < B) (h : Blk w g 77 #[v1, v2, v3])
    (c1 : w.cell? (ad.add k) = some u1) (c2 : w.cell? ⟨(ad.add k).block, (ad.add k).off + 1, none⟩ = some u2) (c3 : w.cell? ⟨(ad.add k).block, (ad.add k).off + 2, none⟩ = some u3) :
    wx.cell? (ad.add k) = some u1 ∧ wx.cell? ⟨(ad.add k).block, (ad.add k).off + 1, none⟩ = some u2 ∧ wx.cell? ⟨(ad.add k).block, (ad.add k).off + 2, none⟩ = some u3 ∧
      wx.cell? ⟨g, 0, none⟩ = some v1 ∧ wx.cell? ⟨g, 1, none⟩ = some v2 ∧ wx.cell? ⟨g, 2, none⟩ = some v3 :=
  ⟨(hb.cell (by rw [block_of_add]; exact had)).trans c1, (hb.cell (p := ⟨(ad.add k).block, (ad.add k).off + 1, none⟩) (by simp only [block_of_add]; exact had)).trans c2,
   (hb.cell (p := ⟨(ad.add k).block, (ad.add k).off + 2, none⟩) (by simp only [block_of_add]; exact had)).trans c3,
   ((h.below hb hg).cell 0).trans rfl, ((h.below hb hg).cell 1).trans rfl, ((h.below hb hg).cell 2).trans rfl⟩
end Go.Proofs.YtdmejcfnolhplaaGreat.Clash
/-
  The contract of the document's put once more, with the rows' types told. Condition: sets of at most 10,000 spans where names are alike; at most 100,000 terms.
-/
namespace Go.Proofs.YtdmejcfnolhplaaGreat.Fact
open Go.Proofs.YtdmejcfnolhplaaGreat.Pick (triP)
open Go Go.RowKit Go.Lib Go.Proofs.YtdmejcfnolhplaaGreat.Span Go.Proofs.YtdmejcfnolhplaaGreat.Need Go.Proofs.YtdmejcfnolhplaaGreat.Grow Go.Proofs.YtdmejcfnolhplaaGreat.Term Go.Proofs.YtdmejcfnolhplaaGreat.Clash
open Go.Proofs.YtdmejcfnolhplaaGreat.Label (runes fitL)
set_option linter.unusedVariables false
set_option maxHeartbeats 16000000 in
set_option maxRecDepth 100000 in
theorem refPutR_any (l : List Tm) (nm : ByteArray) (s : List S) (z : Bool) (A An : Option Addr) (n c nn cn : Nat) (w : World) (h : TmR w w.heap.size A n l) (hs : InS w 0 An nn s)
    (hl : ∀ q ∈ l, q.set.length ≤ 10000) (hnn : nn ≤ 10000) (hn : n ≤ 100000) :
    Calls Tryz.prog 122 #[.slice A n c, .agg #[.string nm, .slice An nn cn, .bool z]] w fun e w' =>
      ∃ A' n' c', e = .returned (.slice A' n' c') ∧ TmR w' w'.heap.size A' n' (putC ⟨nm, s, z⟩ false l) ∧ Below w.heap.size w w' := by
  obtain ⟨i0, hi0, hz0, hz1, hz2⟩ := info_parts info_term
  have hlen := hide h.len
  have HD := hide (fun i x f => @putC_drop l ⟨nm, s, z⟩ x i f)
  obtain ⟨M, hM⟩ : ∃ M, M = putC ⟨nm, s, z⟩ false l := ⟨_, rfl⟩
  have HM : Hid ([] ++ putC ⟨nm, s, z⟩ false (l.drop 0) = M) := hide (by rw [hM]; simp)
  have Hend : ∀ b, Hid (putC ⟨nm, s, z⟩ b (l.drop n) = if b = true then [] else [⟨nm, s, z⟩]) := fun b => hide (by rw [List.drop_of_length_le (by have := hlen.out; omega)]; exact putC_end _ _)
  rw [← hM]
  clear hM
  have hB0 := Blk.new w 77 #[.string nm, .slice An nn cn, .bool z]
  have hb0 := alloc_b (w := w) (.cells #[.string nm, .slice An nn cn, .bool z] 77)
  go_enter Tryz.func122, Tryz.ntmps122
  go_wp2
  go_loopw [5, 6, 7] (fun u b v wr => ∃ (i m : Nat) (inn : Bool) (rs : List Rt) (out : List Tm), i ≤ n ∧ m ≤ 2 * i ∧ b = .bool inn ∧ v = .int .i64 (i : Int) ∧ TmsR wr (w.heap.size + 1) u m rs out ∧ Hid (out ++ putC ⟨nm, s, z⟩ inn (l.drop i) = M) ∧ Blk wr w.heap.size 77 #[.string nm, .slice An nn cn, .bool z] ∧ Below w.heap.size w wr) (fun _ _ v _ => n - (RowKit.intOf v).toNat)
  case atStart => exact ⟨0, 0, false, [], [], by omega, by omega, rfl, rfl, TmsR.nil_ _ _, HM, hB0, hb0⟩
  case round =>
    clear hB0 hb0 HM
    obtain ⟨i, m, inn, rs, out, hi, hm, rfl, rfl, hN, hM, hB, hb⟩ := hrel
    obtain ⟨Ax, cx, rfl, hcx, hx⟩ := hN.told
    have hbs := hb.size
    have hBl := hB.lt
    have Ht : Hid (∀ wx, Below (w.heap.size + 1) wr wx → InS wx 0 An nn s) := hide (fun wx hbx => hs.below (hb.trans (hbx.mono (by omega))))
    by_cases hlt : i < n
    · obtain ⟨ad, x, A', n', c', rfl, hbl, hq, ht, c1, c2, c3, hty⟩ := TmR.at_ (TmR.below h hb (Nat.le_refl _) hb.size) hlt
      have hql := hl x (List.mem_of_getElem? hq)
      have hd := (congrArg (out ++ ·) (HD.out i x inn hq)).symm.trans hM.out
      obtain ⟨xn, xs, xz⟩ := x
      simp only [] at c1 c2 c3 ht hql hd
      have htl := ht.1
      have Hx : Hid (∀ wx, Below (w.heap.size + 1) wr wx → InS wx 0 A' n' xs) := hide (fun wx hbx => insLow (ht.more (by omega)) hty (by omega) hbx (by have := hbx.size; omega))
      have HX := hide (fun (wx : World) (hbx : Below (w.heap.size + 1) wr wx) => six_cells (k := i * 3) hbx (by omega) (by omega) hB c1 c2 c3)
      have HE := hide (fun (wx : World) (hbx : Below (w.heap.size + 1) wr wx) => refMeetT_any xn nm xs s xz z A' An n' c' nn cn wx ((ht.below (hbx.mono (by omega))).more (by have := hbx.size; omega)) (((SpIn.below hs.1 hb).below (hbx.mono (by omega))).more (by have := hbx.size; omega)) (by omega) hnn)
      unfold MakesT at HE
      have htri := triP nm xn
      have he := eq_names xn nm
      have hi1 : (0 : Int) ≤ (i : Int) := by omega
      have hi2 : (i : Int) < (n : Int) := by omega
      clear hq ht hty hql htl hx HD hs h hl hM c1 c2 c3
      by_cases hxn : xn = nm
      · have Hd := hide (show out ++ meetT ⟨xn, xs, xz⟩ ⟨nm, s, z⟩ :: putC ⟨nm, s, z⟩ true (l.drop (i + 1)) = M by rw [if_pos hxn] at hd; exact hd)
        rw [decide_eq_true hxn] at he
        clear hd hxn htri
        have h0 : Below (w.heap.size + 1) wr wr := Below.refl _ _
        go_upto_region 6 with fail
        obtain ⟨c1, c2, c3, b0, b1, b2⟩ := HX.out _ h0
        have hsw10 := h0.size
        have q1 := cell_in c1 (by rw [block_of_add]; omega)
        have q2 := cell_in c2 (by simp only [block_of_add]; omega)
        have q3 := cell_in c3 (by simp only [block_of_add]; omega)
        have q4 := cell_in b0 (by show w.heap.size < _; omega)
        have q5 := cell_in b1 (by show w.heap.size < _; omega)
        have q6 := cell_in b2 (by show w.heap.size < _; omega)
        clear c1 c2 c3 b0 b1 b2
        refine wp_region_grow [] []
          (by kernel_rfl) (by kernel_rfl) rfl (by kernel_rfl) (by kernel_rfl) trivial ?_
        repeat (first
          | (refine lex_skip rfl ?_; simp only [Act.put, List.setIfInBounds_toArray, List.set_cons_zero, List.set_cons_succ])
          | (refine lex_quiet rfl rfl rfl (fun K hK => ?_); unfold Reg; go_big_quiet_op; refine hK _ ?_; clear hK K))
        refine lex_nil (fun w1 hC9 _ => ?_)
        have hx9 := reg_iff.1 hC9
        have hw1 : Below (w.heap.size + 1) wr w1 := h0.trans (hx9.mono (by omega))
        have Nw1 := hN.below hx9
        have hsw1 := hw1.size
        clear hC9 hx9 q1 q2 q3 q4 q5 q6
        obtain ⟨c1, c2, c3, b0, b1, b2⟩ := HX.out _ hw1
        have q1 := cell_in c1 (by rw [block_of_add]; omega)
        have q2 := cell_in c2 (by simp only [block_of_add]; omega)
        have q3 := cell_in c3 (by simp only [block_of_add]; omega)
        have q4 := cell_in b0 (by show w.heap.size < _; omega)
        have q5 := cell_in b1 (by show w.heap.size < _; omega)
        have q6 := cell_in b2 (by show w.heap.size < _; omega)
        clear c1 c2 c3 b0 b1 b2
        generalize meetT ⟨xn, xs, xz⟩ ⟨nm, s, z⟩ = MM at *
        go_upto_region 7 with fail
        refine wp_region_grow_w [(28, termV MM), (29, rowT 0 MM)] [28, 29] 8 (putsTR (w.heap.size + 1) m rs (.slice Ax m cx) MM) _
          (by kernel_rfl) (by kernel_rfl) rfl (by kernel_rfl) (by kernel_rfl) (by kernel_rfl) rfl rfl (by kernel_rfl) (by kernel_rfl) ⟨termV_stable _, rowT_stable _ _, trivial⟩ ?_
        repeat (first
          | (refine lexK_skip (by decide) rfl ?_; simp only [Act.put, List.setIfInBounds_toArray, List.set_cons_zero, List.set_cons_succ])
          | (refine lexK_quiet (by decide) rfl rfl rfl (fun K hK => ?_); unfold Reg; go_big_quiet_op; refine hK _ ?_; clear hK K)
          | (refine lexK_rel (by decide) rfl rfl (fun w' hb9 hK => ?_) (fun v w' hb9 hv => ?_)
             · unfold grows
               go_simp
               go_at_call 153
               refine (HE.out w' (hw1.trans (hb9.mono (by omega)))).mono ?_
               rintro e w5 ⟨A5, n5, c5, rfl, hN5, hb5⟩
               exact ⟨_, rfl, hb5, A5, n5, c5, rfl, InS.of_new hN5⟩
             obtain ⟨A6, n6, c6, rfl, hI6⟩ := hv
             simp only [Act.put, List.setIfInBounds_toArray, List.set_cons_zero, List.set_cons_succ])
          | (refine lexK_rel (by decide) rfl rfl (fun w' hb9 hK => ?_) (fun v w' hb9 hv => ?_)
             · obtain ⟨A9, n9, c9, e9, hI9⟩ := hK.at_ 28 rfl rfl (agg_d _)
               have e10 : Value.agg #[.string MM.name, .slice A6 n6 c6, .bool MM.none] = .agg #[.string MM.name, .slice A9 n9 c9, .bool MM.none] := e9
               obtain ⟨x1, x2, x3⟩ := agg_inj3 e10
               rw [← x1, ← x2] at hI9
               clear e9 e10 x1 x2 x3 hK
               unfold grows
               go_simp
               exact ⟨alloc_b _, some ⟨w'.heap.size, 0, none⟩, 1, A6, n6, c6, rfl, (reads_term w' MM.name A6 n6 c6 MM.none _ _ rfl).more (by simp), (hI9.any _).below (alloc_b _)⟩
             obtain ⟨A7, c7, A3, n3, c3, rfl, hr7, hI7⟩ := hv
             simp only [Act.put, List.setIfInBounds_toArray, List.set_cons_zero, List.set_cons_succ])
          | (refine lexK_wr rfl rfl (fun w' hb9 hK => ?_) (fun v w' w'' hb9 hv => ?_)
             · obtain ⟨A4, c4, A5, n5, c5, e4, hr4, hI4⟩ := hK.at_ 29 rfl (slice_d _ _ _)
               injection e4 with e5 e6 e7
               subst e5 e7
               have hN4 := Nw1.below hb9
               refine grows_append (.tmp 22) (.tmp 29) _ rfl (w.heap.size + 1) 77 i0 _ 3 48 Tryz.underlying41 hi0 hz0 hz1 hz2 rfl (by omega) _ m (tms rs) rfl hN4.1 _ _ 1 _ _ rfl hr4 (one_term _ _ _ _ _) (by unfold maxLen; omega) (by omega) (by have := hb9.size; omega) ?_
               intro v' w5 hown hg _
               exact ⟨_, _, _, hI4, hown, hg⟩
             obtain ⟨Av, cv, rfl⟩ := putsTR_slice hv
             simp only [Act.put, List.setIfInBounds_toArray, List.set_cons_zero, List.set_cons_succ])
          | (refine lexK_late (by decide) rfl rfl (fun K hK => ?_); go_big_quiet_op; refine hK _ ?_; clear hK K))
        refine lexK_nil (fun w2 w9 v hC9 hall hS hd => ?_)
        have hb9 := reg_iff.1 hC9
        have hv9 := (hd 30 rfl).resolve_right (slice_d _ _ _)
        have hv9' : Value.slice Av (m + 1) cv = v := hv9
        subst hv9'
        have hw9 : Below (w.heap.size + 1) wr w9 := hw1.trans (hb9.mono (by omega))
        have hsw9 := hw9.size
        have N9 := Nw1.below hb9
        obtain ⟨rs9, N10⟩ := putsTR_told N9 hS
        have hw10 : Below (w.heap.size + 1) wr w2 := putsTR_below N9 hw9 (Nat.le_refl _) (by omega) hS
        clear hall hd hS hv9 hC9 q1 q2 q3 q4 q5 q6
        go_wp2
        go_roundw
        case rel => exact ⟨i + 1, m + 1, true, _, _, by omega, by omega, rfl, by go_num, N10, hide (by rw [← Hd.out]; simp), hB.below hw10 (by omega), hb.trans (hw10.mono (by omega))⟩
        case measure => simp [RowKit.intOf]; omega
      · rw [decide_eq_false hxn] at he
        rw [if_neg hxn] at hd
        clear HE
        cases inn with
        | true =>
          have Hd := hide (show out ++ ⟨xn, xs, xz⟩ :: putC ⟨nm, s, z⟩ true (l.drop (i + 1)) = M by rw [if_neg (fun g => by cases g.1)] at hd; exact hd)
          clear hd hxn htri
          have h0 : Below (w.heap.size + 1) wr wr := Below.refl _ _
          go_upto_region 6 with fail
          obtain ⟨c1, c2, c3, b0, b1, b2⟩ := HX.out _ h0
          have hsw10 := h0.size
          have q1 := cell_in c1 (by rw [block_of_add]; omega)
          have q2 := cell_in c2 (by simp only [block_of_add]; omega)
          have q3 := cell_in c3 (by simp only [block_of_add]; omega)
          have q4 := cell_in b0 (by show w.heap.size < _; omega)
          have q5 := cell_in b1 (by show w.heap.size < _; omega)
          have q6 := cell_in b2 (by show w.heap.size < _; omega)
          clear c1 c2 c3 b0 b1 b2
          refine wp_region_grow [] []
            (by kernel_rfl) (by kernel_rfl) rfl (by kernel_rfl) (by kernel_rfl) trivial ?_
          repeat (first
            | (refine lex_skip rfl ?_; simp only [Act.put, List.setIfInBounds_toArray, List.set_cons_zero, List.set_cons_succ])
            | (refine lex_quiet rfl rfl rfl (fun K hK => ?_); unfold Reg; go_big_quiet_op; refine hK _ ?_; clear hK K))
          refine lex_nil (fun w1 hC9 _ => ?_)
          have hx9 := reg_iff.1 hC9
          have hw1 : Below (w.heap.size + 1) wr w1 := h0.trans (hx9.mono (by omega))
          have Nw1 := hN.below hx9
          have hsw1 := hw1.size
          clear hC9 hx9 q1 q2 q3 q4 q5 q6
          go_upto_region 9 with fail
          obtain ⟨c1, c2, c3, b0, b1, b2⟩ := HX.out _ hw1
          have hsw20 := hw1.size
          have q1 := cell_in c1 (by rw [block_of_add]; omega)
          have q2 := cell_in c2 (by simp only [block_of_add]; omega)
          have q3 := cell_in c3 (by simp only [block_of_add]; omega)
          have q4 := cell_in b0 (by show w.heap.size < _; omega)
          have q5 := cell_in b1 (by show w.heap.size < _; omega)
          have q6 := cell_in b2 (by show w.heap.size < _; omega)
          clear c1 c2 c3 b0 b1 b2
          refine wp_region_grow [] []
            (by kernel_rfl) (by kernel_rfl) rfl (by kernel_rfl) (by kernel_rfl) trivial ?_
          repeat (first
            | (refine lex_skip rfl ?_; simp only [Act.put, List.setIfInBounds_toArray, List.set_cons_zero, List.set_cons_succ])
            | (refine lex_quiet rfl rfl rfl (fun K hK => ?_); unfold Reg; go_big_quiet_op; refine hK _ ?_; clear hK K))
          refine lex_nil (fun w2 hC9 _ => ?_)
          have hx9 := reg_iff.1 hC9
          have hw2 : Below (w.heap.size + 1) wr w2 := hw1.trans (hx9.mono (by omega))
          have Nw2 := Nw1.below hx9
          have hsw2 := hw2.size
          clear hC9 hx9 q1 q2 q3 q4 q5 q6
          obtain ⟨c1, c2, c3, b0, b1, b2⟩ := HX.out _ hw2
          go_wp2_with (first
            | (at_builtin
               refine wpList_append_any _ rfl (.tmp 47) (.tmp 52) _ rfl (w.heap.size + 1) 77 i0 _ 3 48 Tryz.underlying41 hi0 hz0 hz1 hz2 rfl (by omega) _ (m) (tms rs) rfl
                 (own_below Nw2.1 (alloc_b _)) _ _ 1 _ _ rfl (reads_term _ xn A' n' c' xz _ _ (by simp)) (one_term _ _ _ _ _) (by unfold maxLen; omega) (by omega) (by simp; omega) ?_
               intro v3 w3 hown3 hg3 hat3
               have hA3 := (alloc_b (w := w2) (.cells #[.string xn, .slice A' n' c', .bool xz] 77))
               have N3 := (Nw2.below hA3).cat (AllT.one (z := xz) (InS.below (Hx.out _ hw2) hA3)) hown3 hg3
               have h3 : Below (w.heap.size + 1) wr w3 := (hw2.trans (hA3.mono (by omega))).grown hg3 (by simp; omega) (fun k hk => (Nw2.1.lt k hk).1)
               have hs3 := h3.size))
          go_roundw
          case rel => exact ⟨i + 1, m + 1, _, _, _, by omega, by omega, rfl, by go_num, N3, hide (by rw [← Hd.out]; simp), hB.below h3 (by omega), hb.trans (h3.mono (by omega))⟩
          case measure => simp [RowKit.intOf]; omega
        | false =>
        rcases htri with ⟨f1, f2, f3⟩ | ⟨f1, f2, f3⟩ | ⟨f1, f2, f3⟩
        · have Hd := hide (show out ++ ⟨nm, s, z⟩ :: ⟨xn, xs, xz⟩ :: putC ⟨nm, s, z⟩ true (l.drop (i + 1)) = M by rw [if_pos ⟨rfl, f1⟩] at hd; exact hd)
          clear hd hxn f2 f3
          have h0 : Below (w.heap.size + 1) wr wr := Below.refl _ _
          go_upto_region 6 with fail
          obtain ⟨c1, c2, c3, b0, b1, b2⟩ := HX.out _ h0
          have hsw10 := h0.size
          have q1 := cell_in c1 (by rw [block_of_add]; omega)
          have q2 := cell_in c2 (by simp only [block_of_add]; omega)
          have q3 := cell_in c3 (by simp only [block_of_add]; omega)
          have q4 := cell_in b0 (by show w.heap.size < _; omega)
          have q5 := cell_in b1 (by show w.heap.size < _; omega)
          have q6 := cell_in b2 (by show w.heap.size < _; omega)
          clear c1 c2 c3 b0 b1 b2
          refine wp_region_grow [] []
            (by kernel_rfl) (by kernel_rfl) rfl (by kernel_rfl) (by kernel_rfl) trivial ?_
          repeat (first
            | (refine lex_skip rfl ?_; simp only [Act.put, List.setIfInBounds_toArray, List.set_cons_zero, List.set_cons_succ])
            | (refine lex_quiet rfl rfl rfl (fun K hK => ?_); unfold Reg; go_big_quiet_op; refine hK _ ?_; clear hK K))
          refine lex_nil (fun w1 hC9 _ => ?_)
          have hx9 := reg_iff.1 hC9
          have hw1 : Below (w.heap.size + 1) wr w1 := h0.trans (hx9.mono (by omega))
          have Nw1 := hN.below hx9
          have hsw1 := hw1.size
          clear hC9 hx9 q1 q2 q3 q4 q5 q6
          go_upto_region 9 with fail
          obtain ⟨c1, c2, c3, b0, b1, b2⟩ := HX.out _ hw1
          have hsw20 := hw1.size
          have q1 := cell_in c1 (by rw [block_of_add]; omega)
          have q2 := cell_in c2 (by simp only [block_of_add]; omega)
          have q3 := cell_in c3 (by simp only [block_of_add]; omega)
          have q4 := cell_in b0 (by show w.heap.size < _; omega)
          have q5 := cell_in b1 (by show w.heap.size < _; omega)
          have q6 := cell_in b2 (by show w.heap.size < _; omega)
          clear c1 c2 c3 b0 b1 b2
          refine wp_region_grow [] []
            (by kernel_rfl) (by kernel_rfl) rfl (by kernel_rfl) (by kernel_rfl) trivial ?_
          repeat (first
            | (refine lex_skip rfl ?_; simp only [Act.put, List.setIfInBounds_toArray, List.set_cons_zero, List.set_cons_succ])
            | (refine lex_quiet rfl rfl rfl (fun K hK => ?_); unfold Reg; go_big_quiet_op; refine hK _ ?_; clear hK K))
          refine lex_nil (fun w2 hC9 _ => ?_)
          have hx9 := reg_iff.1 hC9
          have hw2 : Below (w.heap.size + 1) wr w2 := hw1.trans (hx9.mono (by omega))
          have Nw2 := Nw1.below hx9
          have hsw2 := hw2.size
          clear hC9 hx9 q1 q2 q3 q4 q5 q6
          obtain ⟨c1, c2, c3, b0, b1, b2⟩ := HX.out _ hw2
          go_upto_region 12 with (first
            | (at_builtin
               refine wpList_append_any _ rfl (.tmp 43) (.tmp 45) _ rfl (w.heap.size + 1) 77 i0 _ 3 48 Tryz.underlying41 hi0 hz0 hz1 hz2 rfl (by omega) _ (m) (tms rs) rfl
                 (own_below Nw2.1 (alloc_b _)) _ _ 1 _ _ rfl (reads_term _ nm An nn cn z _ _ (by simp)) (one_term _ _ _ _ _) (by unfold maxLen; omega) (by omega) (by simp; omega) ?_
               intro v3 w3 hown3 hg3 hat3
               have hA3 := (alloc_b (w := w2) (.cells #[.string nm, .slice An nn cn, .bool z] 77))
               have N3 := (Nw2.below hA3).cat (AllT.one (z := z) (InS.below (Ht.out _ hw2) hA3)) hown3 hg3
               have h3 : Below (w.heap.size + 1) wr w3 := (hw2.trans (hA3.mono (by omega))).grown hg3 (by simp; omega) (fun k hk => (Nw2.1.lt k hk).1)
               have hs3 := h3.size
               obtain ⟨c1, c2, c3, b0, b1, b2⟩ := HX.out _ h3
               obtain ⟨A3x, c3x, e3x, _, _⟩ := N3.told
               subst e3x))
          go_wp2_with (first
            | (at_builtin
               refine wpList_append_any _ rfl (.tmp 47) (.tmp 52) _ rfl (w.heap.size + 1) 77 i0 _ 3 48 Tryz.underlying41 hi0 hz0 hz1 hz2 rfl (by omega) _ (m + 1) (tms (rs ++ [(nm, .slice An nn cn, z)])) rfl
                 (own_below N3.1 (alloc_b _)) _ _ 1 _ _ rfl (reads_term _ xn A' n' c' xz _ _ (by simp)) (one_term _ _ _ _ _) (by unfold maxLen; omega) (by omega) (by simp; omega) ?_
               intro v4 w4 hown4 hg4 hat4
               have hA4 := (alloc_b (w := w3) (.cells #[.string xn, .slice A' n' c', .bool xz] 77))
               have N4 := (N3.below hA4).cat (AllT.one (z := xz) (InS.below (Hx.out _ h3) hA4)) hown4 hg4
               have h4 : Below (w.heap.size + 1) wr w4 := (h3.trans (hA4.mono (by omega))).grown hg4 (by simp; omega) (fun k hk => (N3.1.lt k hk).1)
               have hs4 := h4.size))
          go_roundw
          case rel => exact ⟨i + 1, m + 1 + 1, true, _, _, by omega, by omega, rfl, by go_num, N4, hide (by rw [← Hd.out]; simp), hB.below h4 (by omega), hb.trans (h4.mono (by omega))⟩
          case measure => simp [RowKit.intOf]; omega
        · exact absurd (by rw [eq_names] at f3; exact (of_decide_eq_true f3).symm) hxn
        · have Hd := hide (show out ++ ⟨xn, xs, xz⟩ :: putC ⟨nm, s, z⟩ false (l.drop (i + 1)) = M by rw [if_neg (fun g => by have := g.2; unfold nlt at this; rw [f1] at this; cases this)] at hd; exact hd)
          clear hd hxn f2 f3
          have h0 : Below (w.heap.size + 1) wr wr := Below.refl _ _
          go_upto_region 6 with fail
          obtain ⟨c1, c2, c3, b0, b1, b2⟩ := HX.out _ h0
          have hsw10 := h0.size
          have q1 := cell_in c1 (by rw [block_of_add]; omega)
          have q2 := cell_in c2 (by simp only [block_of_add]; omega)
          have q3 := cell_in c3 (by simp only [block_of_add]; omega)
          have q4 := cell_in b0 (by show w.heap.size < _; omega)
          have q5 := cell_in b1 (by show w.heap.size < _; omega)
          have q6 := cell_in b2 (by show w.heap.size < _; omega)
          clear c1 c2 c3 b0 b1 b2
          refine wp_region_grow [] []
            (by kernel_rfl) (by kernel_rfl) rfl (by kernel_rfl) (by kernel_rfl) trivial ?_
          repeat (first
            | (refine lex_skip rfl ?_; simp only [Act.put, List.setIfInBounds_toArray, List.set_cons_zero, List.set_cons_succ])
            | (refine lex_quiet rfl rfl rfl (fun K hK => ?_); unfold Reg; go_big_quiet_op; refine hK _ ?_; clear hK K))
          refine lex_nil (fun w1 hC9 _ => ?_)
          have hx9 := reg_iff.1 hC9
          have hw1 : Below (w.heap.size + 1) wr w1 := h0.trans (hx9.mono (by omega))
          have Nw1 := hN.below hx9
          have hsw1 := hw1.size
          clear hC9 hx9 q1 q2 q3 q4 q5 q6
          go_upto_region 9 with fail
          obtain ⟨c1, c2, c3, b0, b1, b2⟩ := HX.out _ hw1
          have hsw20 := hw1.size
          have q1 := cell_in c1 (by rw [block_of_add]; omega)
          have q2 := cell_in c2 (by simp only [block_of_add]; omega)
          have q3 := cell_in c3 (by simp only [block_of_add]; omega)
          have q4 := cell_in b0 (by show w.heap.size < _; omega)
          have q5 := cell_in b1 (by show w.heap.size < _; omega)
          have q6 := cell_in b2 (by show w.heap.size < _; omega)
          clear c1 c2 c3 b0 b1 b2
          refine wp_region_grow [] []
            (by kernel_rfl) (by kernel_rfl) rfl (by kernel_rfl) (by kernel_rfl) trivial ?_
          repeat (first
            | (refine lex_skip rfl ?_; simp only [Act.put, List.setIfInBounds_toArray, List.set_cons_zero, List.set_cons_succ])
            | (refine lex_quiet rfl rfl rfl (fun K hK => ?_); unfold Reg; go_big_quiet_op; refine hK _ ?_; clear hK K))
          refine lex_nil (fun w2 hC9 _ => ?_)
          have hx9 := reg_iff.1 hC9
          have hw2 : Below (w.heap.size + 1) wr w2 := hw1.trans (hx9.mono (by omega))
          have Nw2 := Nw1.below hx9
          have hsw2 := hw2.size
          clear hC9 hx9 q1 q2 q3 q4 q5 q6
          obtain ⟨c1, c2, c3, b0, b1, b2⟩ := HX.out _ hw2
          go_wp2_with (first
            | (at_builtin
               refine wpList_append_any _ rfl (.tmp 47) (.tmp 52) _ rfl (w.heap.size + 1) 77 i0 _ 3 48 Tryz.underlying41 hi0 hz0 hz1 hz2 rfl (by omega) _ (m) (tms rs) rfl
                 (own_below Nw2.1 (alloc_b _)) _ _ 1 _ _ rfl (reads_term _ xn A' n' c' xz _ _ (by simp)) (one_term _ _ _ _ _) (by unfold maxLen; omega) (by omega) (by simp; omega) ?_
               intro v3 w3 hown3 hg3 hat3
               have hA3 := (alloc_b (w := w2) (.cells #[.string xn, .slice A' n' c', .bool xz] 77))
               have N3 := (Nw2.below hA3).cat (AllT.one (z := xz) (InS.below (Hx.out _ hw2) hA3)) hown3 hg3
               have h3 : Below (w.heap.size + 1) wr w3 := (hw2.trans (hA3.mono (by omega))).grown hg3 (by simp; omega) (fun k hk => (Nw2.1.lt k hk).1)
               have hs3 := h3.size))
          go_roundw
          case rel => exact ⟨i + 1, m + 1, _, _, _, by omega, by omega, rfl, by go_num, N3, hide (by rw [← Hd.out]; simp), hB.below h3 (by omega), hb.trans (h3.mono (by omega))⟩
          case measure => simp [RowKit.intOf]; omega
    · have hi2 : i = n := by omega
      have hd := hM.out
      rw [hi2, (Hend inn).out] at hd
      have hE := hide hd
      have b0 := (hB.cell 0).trans (show (#[.string nm, .slice An nn cn, .bool z] : Array Value)[0]? = some (.string nm) from rfl)
      have b1 := (hB.cell 1).trans (show (#[.string nm, .slice An nn cn, .bool z] : Array Value)[1]? = some (.slice An nn cn) from rfl)
      have b2 := (hB.cell 2).trans (show (#[.string nm, .slice An nn cn, .bool z] : Array Value)[2]? = some (.bool z) from rfl)
      have h0 : Below (w.heap.size + 1) wr wr := Below.refl _ _
      clear hd hM Hend HD hs h hl
      cases inn with
      | true =>
        have e : Hid (out = M) := hide (by have := hE.out; simpa using this)
        clear hE
        go_wp2
        go_ret
        exact ⟨Ax, m, cx, rfl, by rw [← e.out]; exact hx, hb⟩
      | false =>
        have e : Hid (out ++ [⟨nm, s, z⟩] = M) := hide (by have := hE.out; simpa using this)
        clear hE
        go_wp2_with (first
          | (at_builtin
             refine wpList_append_any _ rfl (.tmp 56) (.tmp 58) _ rfl (w.heap.size + 1) 77 i0 _ 3 48 Tryz.underlying41 hi0 hz0 hz1 hz2 rfl (by omega) _ (m) (tms rs) rfl
               (own_below hN.1 (alloc_b _)) _ _ 1 _ _ rfl (reads_term _ nm An nn cn z _ _ (by simp)) (one_term _ _ _ _ _) (by unfold maxLen; omega) (by omega) (by simp; omega) ?_
             intro v3 w3 hown3 hg3 hat3
             have hA3 := (alloc_b (w := wr) (.cells #[.string nm, .slice An nn cn, .bool z] 77))
             have N3 := (hN.below hA3).cat (AllT.one (z := z) (InS.below (Ht.out _ h0) hA3)) hown3 hg3
             have h3 : Below (w.heap.size + 1) wr w3 := (h0.trans (hA3.mono (by omega))).grown hg3 (by simp; omega) (fun k hk => (hN.1.lt k hk).1)
             have hs3 := h3.size))
        obtain ⟨A3x, c3x, e3x, _, t3x⟩ := N3.told
        subst e3x
        rw [e.out] at t3x
        go_wp2
        go_ret
        exact ⟨A3x, m + 1, c3x, rfl, t3x, hb.trans (h3.mono (by omega))⟩
end Go.Proofs.YtdmejcfnolhplaaGreat.Fact
