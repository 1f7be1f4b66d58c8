/-
  Some texts of this claim, one behind the other: FactCells, ClashMapT. What each proves, and its condition, stands at its head.
-/
import Derived.Test.YtpicnbidbddggaaGreatDoorX24
import Derived.Test.YtpicnbidbddggaaGreatDoorX23
import Derived.Test.YtpicnbidbddggaaGreatDoorX20
import Derived.Test.YtpicnbidbddggaaGreatDoorX26
/-
  Slices of terms whose rows' types are told (so that they stay where a row of another type is written); lists of clashes, and lists of steps, in memory: as they came in, and as a call makes them. No condition.
-/
namespace Go.Proofs.YtpicnbidbddggaaGreatDoor.Fact
open Go Go.RowKit Go.Lib Go.Proofs.YtpicnbidbddggaaGreatDoor.Span Go.Proofs.YtpicnbidbddggaaGreatDoor.Need Go.Proofs.YtpicnbidbddggaaGreatDoor.Mani Go.Proofs.YtpicnbidbddggaaGreatDoor.Grow Go.Proofs.YtpicnbidbddggaaGreatDoor.Term Go.Proofs.YtpicnbidbddggaaGreatDoor.Clash
set_option linter.unusedVariables false
theorem insLow {w wx : World} {B n : Nat} {A : Option Addr} {l : List S} (h : SpIn w B A n l) (ht : InS w 0 A n l) (hB : B ≤ w.heap.size) (hb : Below B w wx) (hs : w.heap.size ≤ wx.heap.size) : InS wx 0 A n l :=
  ⟨(h.below hb).more (by omega), fun ad hA hn => by
    obtain ⟨ad', hA', hlt, _⟩ := h.2 hn
    rw [hA] at hA'
    injection hA' with hA'
    subst hA'
    rcases ht.2 ad hA hn with h1 | ⟨cur, m, h1⟩
    · omega
    · exact .inr ⟨cur, m, (hb.block _ hlt).trans h1⟩⟩
def TmR (w : World) (B : Nat) (A : Option Addr) (n : Nat) (l : List Tm) : Prop :=
  ∃ rs, Reads w B 3 A n (tms rs) ∧ FitsT w B rs l ∧ (∀ ad, A = some ad → 0 < n → ∃ cur m, w.heap[ad.block]? = some (.cells cur 63 m)) ∧ AllT w 0 rs l
section
variable {w w' wx : World} {B B' n k : Nat} {A : Option Addr} {l : List Tm}
theorem TmR.in_ (h : TmR w B A n l) : TmIn w B A n l := by obtain ⟨rs, h1, h2, _⟩ := h; exact ⟨rs, h1, h2⟩
theorem TmR.len (h : TmR w B A n l) : l.length = n := h.in_.len
theorem TmR.nil (w : World) (B : Nat) (A : Option Addr) : TmR w B A 0 [] := ⟨[], ⟨rfl, fun h => absurd h (by omega)⟩, ⟨rfl, fun i r q hr _ => by simp at hr⟩, fun _ _ h => absurd h (by omega), rfl, fun i r q hr _ => by simp at hr⟩
theorem TmR.below (h : TmR w B A n l) (hb : Below B w w') (hB : B ≤ w.heap.size) (hs : w.heap.size ≤ w'.heap.size) : TmR w' B A n l := by
  obtain ⟨rs, h1, h2, h3, h4⟩ := h
  refine ⟨rs, h1.below hb, h2.below hb, fun ad hA hn => ?_, h4.1, fun i r q hr hq => ?_⟩
  · obtain ⟨ad', hA', hlt, _⟩ := h1.2 hn
    rw [hA] at hA'
    injection hA' with hA'
    subst hA'
    obtain ⟨cur, m, g⟩ := h3 ad hA hn
    exact ⟨cur, m, (hb.block _ hlt).trans g⟩
  · obtain ⟨e1, e3, A1, n1, c1, e2, hs1⟩ := h2.2 i r q hr hq
    obtain ⟨_, _, A2, n2, c2, e4, hs2⟩ := h4.2 i r q hr hq
    rw [e2] at e4
    injection e4 with f1 f2 f3
    subst f1 f2 f3
    exact ⟨e1, e3, A1, n1, c1, e2, insLow hs1 hs2 hB hb hs⟩
theorem TmR.more (h : TmR w B A n l) (hb : B ≤ B') : TmR w B' A n l := by
  obtain ⟨rs, h1, h2, h3, h4⟩ := h
  exact ⟨rs, h1.more hb, h2.more hb, h3, h4⟩
theorem TmR.on (h : TmR w w.heap.size A n l) (hb : Below w.heap.size w w') : TmR w' w'.heap.size A n l := (TmR.below h hb (Nat.le_refl _) hb.size).more hb.size
theorem TmR.far {row : Option Nat} (h : TmR w w.heap.size A n l) (h1 : FarT w 60 row) (h2 : FarT w 63 row) (hg : w.grownBy w' row) : TmR w' w'.heap.size A n l := by
  obtain ⟨rs, g1, g2, g3, g4⟩ := h
  have h4 : AllT w' 0 rs l := g4.mono fun _ _ _ hs => insFar hs h1 hg
  have blk : ∀ ad, A = some ad → 0 < n → w'.heap[ad.block]? = w.heap[ad.block]? := fun ad hA hn => by
    obtain ⟨ad', hA', hlt, _⟩ := g1.2 hn
    rw [hA] at hA'
    injection hA' with hA'
    subst hA'
    obtain ⟨cur, k, h5⟩ := g3 ad hA hn
    exact hg.block _ hlt (h2 _ _ _ h5)
  refine ⟨rs, ⟨g1.1, fun hn => ?_⟩, ⟨h4.1, fun i r q hr hq => ?_⟩, fun ad hA hn => ?_, h4⟩
  · obtain ⟨ad, hA, hlt, hc⟩ := g1.2 hn
    exact ⟨ad, hA, Nat.lt_of_lt_of_le hlt hg.size, fun j u hu => (World.cell?_of_block (by rw [block_of_add]; exact blk ad hA hn)).trans (hc j u hu)⟩
  · obtain ⟨e1, e3, A1, n1, c1, e2, hs⟩ := h4.2 i r q hr hq
    exact ⟨e1, e3, A1, n1, c1, e2, hs.1⟩
  · obtain ⟨cur, k, h5⟩ := g3 ad hA hn
    exact ⟨cur, k, (blk ad hA hn).trans h5⟩
theorem TmR.at_ (h : TmR w B A n l) (hk : k < n) :
    ∃ ad q A' n' c', A = some ad ∧ ad.block < B ∧ l[k]? = some q ∧ SpIn w B A' n' q.set ∧ w.cell? (ad.add (k * 3)) = some (.string q.name) ∧ w.cell? ⟨(ad.add (k * 3)).block, (ad.add (k * 3)).off + 1, none⟩ = some (.slice A' n' c') ∧ w.cell? ⟨(ad.add (k * 3)).block, (ad.add (k * 3)).off + 2, none⟩ = some (.bool q.none) ∧ InS w 0 A' n' q.set := by
  have hl := h.len
  obtain ⟨rs, h1, h2, h3, h4⟩ := h
  obtain ⟨ad, hA, hb, hc⟩ := h1.2 (by omega)
  have hr : k < rs.length := by rw [h2.1]; omega
  obtain ⟨e1, e3, A', n', c', e2, hs⟩ := h2.2 k rs[k] (l[k]'(by omega)) (by simp) (by simp)
  obtain ⟨_, _, A2, n2, c2, e4, hs2⟩ := h4.2 k rs[k] (l[k]'(by omega)) (by simp) (by simp)
  rw [e2] at e4
  injection e4 with f1 f2 f3
  subst f1 f2 f3
  obtain ⟨g1, g2, g3⟩ := tms_get rs k rs[k] (by simp)
  refine ⟨ad, l[k]'(by omega), A', n', c', hA, hb, by simp, hs, ?_, ?_, ?_, hs2⟩
  · rw [← e1]; exact hc _ _ g1
  · rw [← add_field, ← e2]; exact hc _ _ g2
  · rw [← add_two, ← e3]; exact hc _ _ g3
end
def TmsR (w : World) (B : Nat) (v : Value) (n : Nat) (rs : List Rt) (l : List Tm) : Prop := w.ownsRow B 63 3 v n (tms rs) ∧ AllT w 0 rs l
section
variable {w w' w1 w2 : World} {B n m : Nat} {v v1 x : Value} {rs rs2 : List Rt} {l l2 out : List Tm} {t : Tm}
theorem TmsR.nil_ (w : World) (B : Nat) : TmsR w B (.slice none 0 0) 0 [] [] := ⟨World.ownsRow_nil w B _ 3, rfl, fun i r q hr _ => by simp at hr⟩
theorem TmsR.below (h : TmsR w B v n rs l) (hb : Below w.heap.size w w') : TmsR w' B v n rs l := ⟨own_below h.1 hb, h.2.mono fun _ _ _ hs => hs.below hb⟩
theorem TmsR.cat (h : TmsR w B v n rs l) (h2 : AllT w 0 rs2 l2) (h1 : w1.ownsRow B 63 3 v1 m (tms rs ++ tms rs2)) (hg : w.grownBy w1 v.ownBlock) : TmsR w1 B v1 m (rs ++ rs2) (l ++ l2) :=
  ⟨by rw [tms_append]; exact h1, (h.2.append h2).mono fun _ _ _ hs => insFar hs (farT_own h.1 (by decide)) hg⟩
theorem TmsR.len (h : TmsR w B v n rs l) : l.length = n := by
  have := h.1.1
  rw [tms_length] at this
  have := h.2.1
  omega
theorem TmsR.told (h : TmsR w B v n rs l) : ∃ A c, v = .slice A n c ∧ n ≤ c ∧ TmR w w.heap.size A n l := by
  obtain ⟨A, c, rfl, hc, _, hr⟩ := own_form h.1
  refine ⟨A, c, rfl, hc, rs, hr, ⟨h.2.1, fun i r q hr hq => ?_⟩, fun ad hA hn => ?_, h.2⟩
  · obtain ⟨e1, e3, A, n, c, e2, hs⟩ := h.2.2 i r q hr hq
    exact ⟨e1, e3, A, n, c, e2, hs.1⟩
  · rcases h.1.2 with ⟨e, _⟩ | ⟨g, cap, cur, e, hB, hgg, _⟩
    · injection e with e1 e2 e3
      omega
    · injection e with e1 e2 e3
      rw [hA] at e1
      injection e1 with e1
      subst e1
      exact ⟨cur, _, hgg⟩
def putsTR (B n : Nat) (rs : List Rt) (x : Value) (t : Tm) : Wr := fun w1 v w2 =>
  ∃ A' n' c', InS w1 0 A' n' t.set ∧ w2.ownsRow B 63 3 v (n + 1) (tms rs ++ tms [(t.name, .slice A' n' c', t.none)]) ∧ w1.grownBy w2 x.ownBlock
end
def MakesR (w : World) (r : Option (List Tm)) (e : Ending) (w' : World) : Prop := ∃ A n c, e = .returned (.tuple #[.slice A n c, .bool r.isSome]) ∧ TmR w' w'.heap.size A n (r.getD []) ∧ Below w.heap.size w w'
/-! Lists of clashes. -/
theorem info_terms : (Tryz.prog.info? 56).map (fun i => (i.zero, i.size, i.bytes)) = some (some (.slice none 0 0), 1, 24) := by kernel_rfl
def FcIn (w : World) (B : Nat) (A : Option Addr) (n : Nat) (L : List (List Tm)) : Prop :=
  ∃ vs : List Value, Reads w B 1 A n vs ∧ vs.length = L.length ∧ ∀ (i : Nat) (v : Value) (c : List Tm), vs[i]? = some v → L[i]? = some c → ∃ A' n' c', v = .slice A' n' c' ∧ TmIn w B A' n' c
section
variable {w w' w1 : World} {B B' n m k : Nat} {A : Option Addr} {L L2 : List (List Tm)} {v v1 : Value} {vs vs2 : List Value}
theorem FcIn.len (h : FcIn w B A n L) : L.length = n := by
  obtain ⟨vs, h1, h2, _⟩ := h
  have := h1.1
  omega
theorem FcIn.at_ (h : FcIn w B A n L) (hk : k < n) : ∃ ad c A' n' c', A = some ad ∧ ad.block < B ∧ L[k]? = some c ∧ TmIn w B A' n' c ∧ w.cell? (ad.add k) = some (.slice A' n' c') := by
  have hl := h.len
  obtain ⟨vs, h1, h2, h3⟩ := h
  obtain ⟨ad, hA, hb, hc⟩ := h1.2 (by omega)
  have hr : k < vs.length := by rw [h2]; omega
  obtain ⟨A', n', c', e, ht⟩ := h3 k vs[k] (L[k]'(by omega)) (by simp) (by simp)
  refine ⟨ad, L[k]'(by omega), A', n', c', hA, hb, by simp, ht, ?_⟩
  rw [← e]
  exact hc k _ (by simp)
theorem FcIn.below (h : FcIn w B A n L) (hb : Below B w w') : FcIn w' B A n L := by
  obtain ⟨vs, h1, h2, h3⟩ := h
  refine ⟨vs, h1.below hb, h2, fun i v c hv hc => ?_⟩
  obtain ⟨A', n', c', e, ht⟩ := h3 i v c hv hc
  exact ⟨A', n', c', e, ht.below hb⟩
theorem FcIn.more (h : FcIn w B A n L) (hb : B ≤ B') : FcIn w B' A n L := by
  obtain ⟨vs, h1, h2, h3⟩ := h
  refine ⟨vs, h1.more hb, h2, fun i v c hv hc => ?_⟩
  obtain ⟨A', n', c', e, ht⟩ := h3 i v c hv hc
  exact ⟨A', n', c', e, ht.more hb⟩
theorem FcIn.nil (w : World) (B : Nat) (A : Option Addr) : FcIn w B A 0 [] := ⟨[], ⟨rfl, fun h => absurd h (by omega)⟩, rfl, fun i v c hv _ => by simp at hv⟩
def AllF (w : World) (vs : List Value) (L : List (List Tm)) : Prop := vs.length = L.length ∧ ∀ (i : Nat) (v : Value) (c : List Tm), vs[i]? = some v → L[i]? = some c → ∃ A' n' c', v = .slice A' n' c' ∧ TmR w w.heap.size A' n' c
theorem AllF.mono (h : AllF w vs L) (hk : ∀ A n l, TmR w w.heap.size A n l → TmR w' w'.heap.size A n l) : AllF w' vs L := ⟨h.1, fun i v c hv hc => by
  obtain ⟨A', n', c', e, ht⟩ := h.2 i v c hv hc
  exact ⟨A', n', c', e, hk _ _ _ ht⟩⟩
theorem AllF.append (h : AllF w vs L) (h2 : AllF w vs2 L2) : AllF w (vs ++ vs2) (L ++ L2) :=
  ⟨by simp [h.1, h2.1], fun i r q hr hq => by
    rcases Nat.lt_or_ge i vs.length with hi | hi
    · rw [List.getElem?_append_left hi] at hr
      rw [List.getElem?_append_left (by rw [← h.1]; exact hi)] at hq
      exact h.2 i r q hr hq
    · rw [List.getElem?_append_right hi] at hr
      rw [List.getElem?_append_right (by rw [← h.1]; exact hi), ← h.1] at hq
      exact h2.2 _ r q hr hq⟩
theorem AllF.one {c : List Tm} {k : Nat} (h : TmR w w.heap.size A n c) : AllF w [.slice A n k] [c] :=
  ⟨rfl, fun i r q hr hq => by
    rcases i with _ | i
    · simp at hr hq
      subst hr hq
      exact ⟨A, n, k, rfl, h⟩
    · simp at hr⟩
def Fcs (w : World) (B : Nat) (v : Value) (n : Nat) (vs : List Value) (L : List (List Tm)) : Prop := w.ownsRow B 56 1 v n vs ∧ AllF w vs L
theorem Fcs.nil_ (w : World) (B : Nat) : Fcs w B (.slice none 0 0) 0 [] [] := ⟨World.ownsRow_nil w B _ 1, rfl, fun i r q hr _ => by simp at hr⟩
theorem Fcs.below (h : Fcs w B v n vs L) (hb : Below w.heap.size w w') : Fcs w' B v n vs L := ⟨own_below h.1 hb, h.2.mono fun _ _ _ hs => hs.on hb⟩
theorem Fcs.far {row : Option Nat} (h : Fcs w B v n vs L) (h1 : FarT w 60 row) (h2 : FarT w 63 row) (h3 : FarT w 56 row) (hg : w.grownBy w' row) : Fcs w' B v n vs L := ⟨own_far h.1 h3 hg, h.2.mono fun _ _ _ hs => hs.far h1 h2 hg⟩
theorem Fcs.cat (h : Fcs w B v n vs L) (h2 : AllF w vs2 L2) (h1 : w1.ownsRow B 56 1 v1 m (vs ++ vs2)) (hg : w.grownBy w1 v.ownBlock) : Fcs w1 B v1 m (vs ++ vs2) (L ++ L2) :=
  ⟨h1, (h.2.append h2).mono fun _ _ _ hs => hs.far (farT_own h.1 (by decide)) (farT_own h.1 (by decide)) hg⟩
theorem Fcs.told (h : Fcs w B v n vs L) : ∃ A c, v = .slice A n c ∧ n ≤ c ∧ FcIn w w.heap.size A n L := by
  obtain ⟨A, c, rfl, hc, _, hr⟩ := own_form h.1
  exact ⟨A, c, rfl, hc, vs, hr, h.2.1, fun i v c hv hc => by
    obtain ⟨A', n', c', e, ht⟩ := h.2.2 i v c hv hc
    exact ⟨A', n', c', e, ht.in_⟩⟩
end
def FcOn (w : World) (A : Option Addr) (n : Nat) (L : List (List Tm)) : Prop := FcIn w w.heap.size A n L
theorem FcOn.on {w w' : World} {A : Option Addr} {n : Nat} {L : List (List Tm)} (h : FcOn w A n L) (hb : Below w.heap.size w w') : FcOn w' A n L := (FcIn.below h hb).more hb.size
/-! Lists of steps. -/
theorem info_step : (Tryz.prog.info? 103).map (fun i => (i.zero, i.size, i.bytes)) = some (some (.agg #[.int .i64 0, .string ByteArray.empty, .int .i64 0, .string ByteArray.empty, .int .i64 0, .int .i64 0]), 6, 64) := by kernel_rfl
abbrev Sp := Proof.Sp
def sps : List Sp → List Value
  | [] => []
  | q :: t => .int .i64 q.kind :: .string q.name :: .int .i64 q.ver :: .string q.dest :: .int .i64 q.a :: .int .i64 q.b :: sps t
theorem sps_length (l : List Sp) : (sps l).length = l.length * 6 := by
  induction l with
  | nil => rfl
  | cons s t ih => simp [sps, ih]; omega
theorem sps_append (l m : List Sp) : sps (l ++ m) = sps l ++ sps m := by
  induction l with
  | nil => rfl
  | cons s t ih => simp [sps, ih]
theorem sps_one (l : List Sp) : ∀ u ∈ sps l, u.oneCell' = true := by
  induction l with
  | nil => intro u hu; cases hu
  | cons s t ih =>
    intro u hu
    simp only [sps, List.mem_cons] at hu
    rcases hu with rfl | rfl | rfl | rfl | rfl | rfl | hu
    · rfl
    · rfl
    · rfl
    · rfl
    · rfl
    · rfl
    · exact ih u hu
theorem sps_get (l : List Sp) : ∀ (i : Nat) (q : Sp), l[i]? = some q → (sps l)[i * 6]? = some (.int .i64 q.kind) ∧ (sps l)[i * 6 + 1]? = some (.string q.name) ∧ (sps l)[i * 6 + 2]? = some (.int .i64 q.ver) ∧ (sps l)[i * 6 + 3]? = some (.string q.dest) ∧ (sps l)[i * 6 + 4]? = some (.int .i64 q.a) ∧ (sps l)[i * 6 + 5]? = some (.int .i64 q.b) := by
  induction l with
  | nil => intro i s h; simp at h
  | cons x t ih =>
    intro i s h
    cases i with
    | zero => simp at h; subst h; exact ⟨rfl, rfl, rfl, rfl, rfl, rfl⟩
    | succ i =>
      rw [List.getElem?_cons_succ] at h
      have := ih i s h
      have e : (i + 1) * 6 = i * 6 + 1 + 1 + 1 + 1 + 1 + 1 := by omega
      rw [e]
      refine ⟨this.1, ?_, ?_, ?_, ?_, ?_⟩
      · rw [show i * 6 + 1 + 1 + 1 + 1 + 1 + 1 + 1 = (i * 6 + 1) + 1 + 1 + 1 + 1 + 1 + 1 by omega]; exact this.2.1
      · rw [show i * 6 + 1 + 1 + 1 + 1 + 1 + 1 + 2 = (i * 6 + 2) + 1 + 1 + 1 + 1 + 1 + 1 by omega]; exact this.2.2.1
      · rw [show i * 6 + 1 + 1 + 1 + 1 + 1 + 1 + 3 = (i * 6 + 3) + 1 + 1 + 1 + 1 + 1 + 1 by omega]; exact this.2.2.2.1
      · rw [show i * 6 + 1 + 1 + 1 + 1 + 1 + 1 + 4 = (i * 6 + 4) + 1 + 1 + 1 + 1 + 1 + 1 by omega]; exact this.2.2.2.2.1
      · rw [show i * 6 + 1 + 1 + 1 + 1 + 1 + 1 + 5 = (i * 6 + 5) + 1 + 1 + 1 + 1 + 1 + 1 by omega]; exact this.2.2.2.2.2
def SsIn (w : World) (B : Nat) (A : Option Addr) (n : Nat) (l : List Sp) : Prop := Reads w B 6 A n (sps l)
section
variable {w w' w1 : World} {B B' n m k : Nat} {A : Option Addr} {l : List Sp} {v v1 : Value}
theorem SsIn.len (h : SsIn w B A n l) : l.length = n := by
  have := h.1
  rw [sps_length] at this
  omega
theorem SsIn.below (h : SsIn w B A n l) (hb : Below B w w') : SsIn w' B A n l := Reads.below h hb
theorem SsIn.more (h : SsIn w B A n l) (hb : B ≤ B') : SsIn w B' A n l := Reads.more h hb
theorem addr_any (a : Addr) (i j : Nat) (hj : 0 < j) : a.add (i + j) = ⟨(a.add i).block, (a.add i).off + j, none⟩ := by
  unfold Addr.add
  by_cases hi : i = 0
  · subst hi; simp; intro h; omega
  · simp [hi]; omega
theorem SsIn.at_ (h : SsIn w B A n l) (hk : k < n) :
    ∃ ad q, A = some ad ∧ ad.block < B ∧ l[k]? = some q ∧ w.cell? (ad.add (k * 6)) = some (.int .i64 q.kind) ∧ w.cell? ⟨(ad.add (k * 6)).block, (ad.add (k * 6)).off + 1, none⟩ = some (.string q.name) ∧ w.cell? ⟨(ad.add (k * 6)).block, (ad.add (k * 6)).off + 2, none⟩ = some (.int .i64 q.ver) ∧
      w.cell? ⟨(ad.add (k * 6)).block, (ad.add (k * 6)).off + 3, none⟩ = some (.string q.dest) ∧ w.cell? ⟨(ad.add (k * 6)).block, (ad.add (k * 6)).off + 4, none⟩ = some (.int .i64 q.a) ∧ w.cell? ⟨(ad.add (k * 6)).block, (ad.add (k * 6)).off + 5, none⟩ = some (.int .i64 q.b) := by
  have hl := h.len
  obtain ⟨ad, hA, hb, hc⟩ := h.2 (by omega)
  have hk2 : k < l.length := by omega
  obtain ⟨g0, g1, g2, g3, g4, g5⟩ := sps_get l k l[k] (by simp)
  refine ⟨ad, l[k], hA, hb, by simp, hc _ _ g0, ?_, ?_, ?_, ?_, ?_⟩
  · rw [← addr_any ad _ 1 (by omega)]; exact hc _ _ g1
  · rw [← addr_any ad _ 2 (by omega)]; exact hc _ _ g2
  · rw [← addr_any ad _ 3 (by omega)]; exact hc _ _ g3
  · rw [← addr_any ad _ 4 (by omega)]; exact hc _ _ g4
  · rw [← addr_any ad _ 5 (by omega)]; exact hc _ _ g5
theorem SsIn.nil (w : World) (B : Nat) (A : Option Addr) : SsIn w B A 0 [] := ⟨rfl, fun h => absurd h (by omega)⟩
theorem own_steps (h : w.ownsRow B 103 6 v n (sps l)) : ∃ A c, v = .slice A n c ∧ n ≤ c ∧ SsIn w w.heap.size A n l := by
  obtain ⟨A, c, rfl, hc, _, hr⟩ := own_form h
  exact ⟨A, c, rfl, hc, hr⟩
theorem reads_step (w : World) (q : Sp) (T : TypeId) (g : Nat) (hg : g = w.heap.size) :
    Reads (w.alloc (.cells #[.int .i64 q.kind, .string q.name, .int .i64 q.ver, .string q.dest, .int .i64 q.a, .int .i64 q.b] T)) (w.heap.size + 1) 6 (some ⟨g, 0, none⟩) 1 (sps [q]) := by
  subst hg
  have h := Reads.newL w T #[.int .i64 q.kind, .string q.name, .int .i64 q.ver, .string q.dest, .int .i64 q.a, .int .i64 q.b]
  exact ⟨rfl, fun _ => h.2 (by simp)⟩
end
def SsOn (w : World) (A : Option Addr) (n : Nat) (l : List Sp) : Prop := SsIn w w.heap.size A n l
theorem SsOn.on {w w' : World} {A : Option Addr} {n : Nat} {l : List Sp} (h : SsOn w A n l) (hb : Below w.heap.size w w') : SsOn w' A n l := (SsIn.below h hb).more hb.size
def FactsC (w : World) (L : List (List Tm)) (l : List Sp) (e : Ending) (w' : World) : Prop := ∃ A n c A' n' c', e = .returned (.tuple #[.slice A n c, .slice A' n' c']) ∧ FcOn w' A n L ∧ SsOn w' A' n' l ∧ Below w.heap.size w w'
end Go.Proofs.YtpicnbidbddggaaGreatDoor.Fact
/-
  A map of terms that a call makes: what it holds of each name (the terms of that name, met), what looking up and putting in do, and which names its sorted keys are. No condition.
-/
namespace Go.Proofs.YtpicnbidbddggaaGreatDoor.Clash
open Go Go.RowKit Go.Lib Go.Maps Go.Sort Go.Proofs.YtpicnbidbddggaaGreatDoor.Span Go.Proofs.YtpicnbidbddggaaGreatDoor.Need Go.Proofs.YtpicnbidbddggaaGreatDoor.Mani Go.Proofs.YtpicnbidbddggaaGreatDoor.Term Go.Proofs.YtpicnbidbddggaaGreatDoor.MapV
set_option linter.unusedVariables false
theorem sorted_f {w : World} {b n : Nat} {D : DataW Value} {f : ByteArray → Option Value} {L : List ByteArray} (hown : w.ownsMap Tryz.prog 9 valElem b n D) (ht : ToldF D f) (hr : L.Pairwise fun x y => nlt x y = true) (look : ∀ nm, (f nm).isSome = true ↔ nm ∈ L) {ss : List (List UInt8)} (hp : ss.Perm (strKeys D)) :
    ss.mergeSort (fun x y => decide (x ≤ y)) = L.map bytesOf := by
  have hlt : (L.map bytesOf).Pairwise (fun x y => x < y) := List.pairwise_map.2 (hr.imp fun h => bytes_lt h)
  have hC : Collected D (fun _ => false) (L.map bytesOf) := ⟨hlt.imp fun {a b} h e => by rw [e] at h; exact List.lt_irrefl _ h, fun x => by
    have e : bytesOf (⟨x.toArray⟩ : ByteArray) = x := by simp [bytesOf]
    have h2 := ht.2.1 ⟨x.toArray⟩
    rw [e] at h2
    rw [h2, look, List.mem_map]
    constructor
    · rintro ⟨y, hy, hyx⟩
      refine ⟨?_, rfl⟩
      rw [show (⟨x.toArray⟩ : ByteArray) = y from bytesOf_inj (by rw [e, hyx])]
      exact hy
    · rintro ⟨hy, _⟩
      exact ⟨_, hy, e⟩⟩
  have hP := hC.perm hown keyed Tryz.underlying9 fun _ => rfl
  have h1 := mergeSort_of_perm (hp.trans hP.symm)
  refine h1.trans ?_
  refine List.mergeSort_of_pairwise (hlt.imp fun h => ?_)
  simp only [leB, decide_eq_true_eq]
  exact List.le_of_lt h
theorem farT_map {w : World} {n b : Nat} {f : ByteArray → Option Value} (T : TypeId) (g : OwnTold w b n f) : FarT w T (some b) := by
  intro k cur m h e
  obtain ⟨es, clock, hb⟩ := g.block
  injection e with e
  rw [e, hb] at h
  injection h with h
  cases h
def IsTm (w : World) (v : Value) (t : Tm) : Prop := ∃ A k e, v = .agg #[.string t.name, .slice A k e, .bool t.none] ∧ InS w 0 A k t.set
def MapC (w : World) (b n : Nat) (c : List Tm) : Prop :=
  ∃ f, OwnTold w b n f ∧ (∀ nm, (f nm).isSome = (findC c nm).isSome) ∧ ∀ nm t, findC c nm = some t → ∃ v, f nm = some v ∧ IsTm w v t
section
variable {w w' : World} {b n m : Nat} {c : List Tm}
theorem IsTm.below {v : Value} {t : Tm} (h : IsTm w v t) (hb : Below w.heap.size w w') : IsTm w' v t := by
  obtain ⟨A, k, e, h1, h2⟩ := h
  exact ⟨A, k, e, h1, h2.below hb⟩
theorem MapC.made (w : World) : MapC (w.alloc (.map #[] 0)) w.heap.size 0 [] := ⟨_, OwnTold.made w, fun _ => rfl, fun nm t h => by cases h⟩
theorem MapC.lt (h : MapC w b n c) : b < w.heap.size := by obtain ⟨f, h1, _⟩ := h; exact h1.lt
theorem MapC.below (h : MapC w b n c) (hb : Below w.heap.size w w') : MapC w' b n c := by
  obtain ⟨f, h1, h3, h4⟩ := h
  refine ⟨f, h1.below hb, h3, fun nm t ht => ?_⟩
  obtain ⟨v, h5, h6⟩ := h4 nm t ht
  exact ⟨v, h5, h6.below hb⟩
theorem zero_term (w : World) : (zeroValue 63).run Tryz.prog w = .ok (.agg #[.string ⟨#[]⟩, .slice none 0 0, .bool false]) w := by
  obtain ⟨i0, hi0, hz0, hz1, hz2⟩ := info_parts info_term
  simp [zeroValue, typeInfo, hi0, hz0]
  rfl
theorem MapC.look_ok (h : MapC w b n c) {nm : ByteArray} (hs : nm.size ≤ maxLen) :
    (findC c nm = none ∧ (Instr.lookup 126 (.map (some b)) (.string nm) true).run Tryz.prog w = .ok (.tuple #[.agg #[.string ⟨#[]⟩, .slice none 0 0, .bool false], .bool false]) w) ∨
    ∃ t A k e, findC c nm = some t ∧ InS w 0 A k t.set ∧ (Instr.lookup 126 (.map (some b)) (.string nm) true).run Tryz.prog w = .ok (.tuple #[.agg #[.string t.name, .slice A k e, .bool t.none], .bool true]) w := by
  obtain ⟨f, h1, h3, h4⟩ := h
  have hl := h1.look_ok Tryz.underlying126 (zero_term w) hs
  cases hc : findC c nm with
  | none =>
    have h5 := h3 nm
    rw [hc] at h5
    have h6 : f nm = none := by cases g : f nm with
      | none => rfl
      | some v => rw [g] at h5; cases h5
    rw [h6] at hl
    exact .inl ⟨rfl, hl⟩
  | some t =>
    obtain ⟨v, h5, A, k, e, rfl, h6⟩ := h4 nm t hc
    rw [h5] at hl
    exact .inr ⟨t, A, k, e, rfl, h6, hl⟩
theorem MapC.look (h : MapC w b n c) {nm : ByteArray} (hs : nm.size ≤ maxLen) {t : Tm} (hc : findC c nm = some t) :
    ∃ A k e, InS w 0 A k t.set ∧ (Instr.lookup 126 (.map (some b)) (.string nm) false).run Tryz.prog w = .ok (.agg #[.string t.name, .slice A k e, .bool t.none]) w := by
  obtain ⟨f, h1, h3, h4⟩ := h
  have hl := h1.look Tryz.underlying126 (zero_term w) hs
  obtain ⟨v, h5, A, k, e, rfl, h6⟩ := h4 nm t hc
  rw [h5] at hl
  exact ⟨A, k, e, h6, hl⟩
theorem MapC.put {f : ByteArray → Option Value} (h1 : OwnTold w b n f) (h3 : ∀ nm, (f nm).isSome = (findC c nm).isSome) (h4 : ∀ nm t, findC c nm = some t → ∃ v, f nm = some v ∧ IsTm w v t) (hr : RisesC c) {t x : Tm} {v : Value} (hv : IsTm w v x)
    (hx : x = match findC c t.name with | some y => meetT y t | none => t) (h6 : OwnTold w' b m (fun a => if t.name = a then some v else f a)) (hg : w.grownBy w' (some b)) : MapC w' b m (putC t false c) := by
  have keep : ∀ {v t}, IsTm w v t → IsTm w' v t := fun {v t} h => by
    obtain ⟨A, k, e, g1, g2⟩ := h
    exact ⟨A, k, e, g1, insFar g2 (farT_map _ h1) hg⟩
  refine ⟨_, h6, fun nm => ?_, fun nm y hy => ?_⟩
  · rw [find_put hr]
    by_cases g : t.name = nm
    · simp only [if_pos g, if_pos g.symm]; rfl
    · simp only [if_neg g, if_neg (fun e : nm = t.name => g e.symm), h3]
  · rw [find_put hr] at hy
    by_cases g : t.name = nm
    · rw [if_pos g.symm, ← g] at hy
      simp only [if_pos g]
      injection hy with hy
      have hxy : x = y := hx.trans hy
      subst hxy
      exact ⟨v, rfl, keep hv⟩
    · rw [if_neg (fun e : nm = t.name => g e.symm)] at hy
      simp only [if_neg g]
      obtain ⟨u, h5, h6⟩ := h4 nm y hy
      exact ⟨u, h5, keep h6⟩
theorem MapC.store (h : MapC w b n c) (hr : RisesC c) (hn : n < maxLen) {t z : Tm} {A : Option Addr} {k e : Nat} (hI : InS w 0 A k z.set) (hz : z = match findC c t.name with | some y => meetT y t | none => t) (hs : t.name.size ≤ maxLen) :
    ∃ w', (Instr.mapUpdate 126 (.map (some b)) (.string t.name) (.agg #[.string z.name, .slice A k e, .bool z.none])).run Tryz.prog w = .ok () w' ∧ MapC w' b (n + 1) (putC t false c) ∧ w.grownBy w' (some b) := by
  obtain ⟨f, h1, h3, h4⟩ := h
  obtain ⟨w', r0, r1, r3⟩ := h1.put Tryz.underlying126 hn hs (.agg #[.string z.name, .slice A k e, .bool z.none])
  exact ⟨w', r0, MapC.put h1 h3 h4 hr ⟨A, k, e, rfl, hI⟩ hz r1 r3.grown, r3.grown⟩
theorem MapC.sorted (h : MapC w b n c) (hr : RisesC c) : ∃ D, w.ownsMap Tryz.prog 9 valElem b n D ∧ Maps.size D ≤ n ∧ ∀ ss : List (List UInt8), ss.Perm (strKeys D) → ss.mergeSort (fun x y => decide (x ≤ y)) = (c.map fun t => t.name).map bytesOf := by
  obtain ⟨f, ⟨D, h1, h2⟩, h3, h4⟩ := h
  refine ⟨D, h1, h1.size_le, fun ss hp => sorted_f h1 h2 (names_rise hr) (fun nm => ?_) hp⟩
  rw [h3]
  unfold findC
  rw [List.find?_isSome, List.mem_map]
  simp
end
theorem meet_fullT {t : Tm} (h : okT t = true) : meetT (fullOf t.name) t = t := by
  rw [meet_same (a := fullOf t.name) (b := t) rfl]
  obtain ⟨nm, s, z⟩ := t
  show (⟨nm, meetS allS s, true && z⟩ : Tm) = ⟨nm, s, z⟩
  have hs := okT_set h
  have e : meetS allS s = s := (is_nf hs fun p p0 p1 => by show has s p = (has allS p && has s p); rw [a_has p0 p1, Bool.true_and]).symm
  rw [e, Bool.true_and]
end Go.Proofs.YtpicnbidbddggaaGreatDoor.Clash
