/-
  Some texts of this claim, one behind the other: TrailRows. What each proves, and its condition, stands at its head.
-/
import Derived.Test.YtllogmokadcfmaaGreatZB20
import Derived.Test.YtllogmokadcfmaaGreatZB27
import Derived.Test.YtllogmokadcfmaaGreatZB44
/-
  The program's own trail in memory: a block with a row of entries (nine cells each: a term, its level, its cause, the number of its name's entry ahead of it, what is known of its name by it), a row of numbers where the levels begin, which may be cut at its end, and a map of each name's last entry. No condition.
-/
namespace Go.Proofs.YtllogmokadcfmaaGreat.Trail
open Go Go.RowKit Go.Lib Go.Proofs.YtllogmokadcfmaaGreat.Span Go.Proofs.YtllogmokadcfmaaGreat.Need Go.Proofs.YtllogmokadcfmaaGreat.Mani Go.Proofs.YtllogmokadcfmaaGreat.Grow Go.Proofs.YtllogmokadcfmaaGreat.Term
open Go.Proofs.YtllogmokadcfmaaGreat.MapV (OwnTold)
set_option linter.unusedVariables false
structure Rn where
  nm : ByteArray
  v : Value
  z : Bool
  lv : Int
  cz : Int
  ah : Int
  v2 : Value
  z2 : Bool
def rns : List Rn → List Value
  | [] => []
  | r :: t => .string r.nm :: r.v :: .bool r.z :: .int .i64 r.lv :: .int .i64 r.cz :: .int .i64 r.ah :: .string r.nm :: r.v2 :: .bool r.z2 :: rns t
theorem rns_length (l : List Rn) : (rns l).length = l.length * 9 := by
  induction l with
  | nil => rfl
  | cons s t ih => simp [rns, ih]; omega
theorem rns_append (l m : List Rn) : rns (l ++ m) = rns l ++ rns m := by
  induction l with
  | nil => rfl
  | cons s t ih => simp [rns, ih]
theorem rns_one (l : List Rn) (h : ∀ r ∈ l, (∃ A n c, r.v = .slice A n c) ∧ ∃ A n c, r.v2 = .slice A n c) : ∀ u ∈ rns l, u.oneCell' = true := by
  induction l with
  | nil => intro u hu; cases hu
  | cons s t ih =>
    intro u hu
    obtain ⟨⟨A, n, c, e⟩, A2, n2, c2, e2⟩ := h s (by simp)
    simp only [rns, List.mem_cons] at hu
    rcases hu with rfl | rfl | rfl | rfl | rfl | rfl | rfl | rfl | rfl | hu
    · rfl
    · rw [e]; rfl
    · rfl
    · rfl
    · rfl
    · rfl
    · rfl
    · rw [e2]; rfl
    · rfl
    · exact ih (fun r hr => h r (by simp [hr])) u hu
theorem rns_get (l : List Rn) : ∀ (i : Nat) (r : Rn), l[i]? = some r → (rns l)[i * 9]? = some (.string r.nm) ∧ (rns l)[i * 9 + 1]? = some r.v ∧ (rns l)[i * 9 + 2]? = some (.bool r.z) ∧ (rns l)[i * 9 + 3]? = some (.int .i64 r.lv) ∧ (rns l)[i * 9 + 4]? = some (.int .i64 r.cz) ∧ (rns l)[i * 9 + 5]? = some (.int .i64 r.ah) ∧ (rns l)[i * 9 + 6]? = some (.string r.nm) ∧ (rns l)[i * 9 + 7]? = some r.v2 ∧ (rns l)[i * 9 + 8]? = some (.bool r.z2) := by
  induction l with
  | nil => intro i s h; simp at h
  | cons x t ih =>
    intro i s h
    cases i with
    | zero => simp at h; subst h; exact ⟨rfl, rfl, rfl, rfl, rfl, rfl, rfl, rfl, rfl⟩
    | succ i =>
      rw [List.getElem?_cons_succ] at h
      have key : ∀ j, (rns (x :: t))[(i + 1) * 9 + j]? = (rns t)[i * 9 + j]? := fun j => by
        rw [show (i + 1) * 9 + j = (i * 9 + j) + 9 by omega]
        rfl
      have h0 := key 0
      simp only [Nat.add_zero] at h0
      rw [h0, key 1, key 2, key 3, key 4, key 5, key 6, key 7, key 8]
      exact ih i s h
theorem rns_take (l : List Rn) : ∀ k : Nat, (rns l).take (k * 9) = rns (l.take k) := by
  induction l with
  | nil => intro k; simp [rns]
  | cons x t ih =>
    intro k
    rcases k with _ | k
    · simp [rns]
    · rw [show (k + 1) * 9 = (k * 9) + 1 + 1 + 1 + 1 + 1 + 1 + 1 + 1 + 1 by omega, List.take_succ_cons]
      simp only [rns, List.take_succ_cons, ih k]
def AllN (w : World) (rs : List Rn) (l : List Ent) : Prop :=
  rs.length = l.length ∧ ∀ (i : Nat) (r : Rn) (q : Ent), rs[i]? = some r → l[i]? = some q → r.nm = q.term.name ∧ r.z = q.term.none ∧ r.lv = (q.level : Int) ∧ r.cz = q.cause ∧ r.ah = (lastNo (l.take i) q.term.name : Int) ∧ r.z2 = (knowL (l.take (i + 1)) q.term.name).none ∧
    (∃ A n c, r.v = .slice A n c ∧ n ≤ c ∧ InS w 0 A n q.term.set) ∧ ∃ A n c, r.v2 = .slice A n c ∧ n ≤ c ∧ InS w 0 A n (knowL (l.take (i + 1)) q.term.name).set
section
variable {w w' : World} {B n : Nat} {v : Value} {rs : List Rn} {l : List Ent} {x : Tr} {bs : List Nat} {row : Option Nat}
theorem AllN.mono (h : AllN w rs l) (hk : ∀ A n s, InS w 0 A n s → InS w' 0 A n s) : AllN w' rs l :=
  ⟨h.1, fun i r q hr hq => by
    obtain ⟨e1, e2, e3, e4, e5, e6, ⟨A, n, c, e7, hc, hs⟩, A2, n2, c2, e8, hc2, hs2⟩ := h.2 i r q hr hq
    exact ⟨e1, e2, e3, e4, e5, e6, ⟨A, n, c, e7, hc, hk _ _ _ hs⟩, A2, n2, c2, e8, hc2, hk _ _ _ hs2⟩⟩
theorem AllN.nil_ (w : World) : AllN w [] [] := ⟨rfl, fun i r q hr _ => by simp at hr⟩
theorem AllN.put (h : AllN w rs l) {t : Tm} {lv : Nat} {cz : Int} {A A2 : Option Addr} {n c n2 c2 : Nat} (hA : InS w 0 A n t.set) (hc : n ≤ c) (hA2 : InS w 0 A2 n2 (meetT (knowL l t.name) t).set) (hc2 : n2 ≤ c2) :
    AllN w (rs ++ [⟨t.name, .slice A n c, t.none, (lv : Int), cz, (lastNo l t.name : Int), .slice A2 n2 c2, (meetT (knowL l t.name) t).none⟩]) (l ++ [⟨t, lv, cz⟩]) := by
  refine ⟨by simp [h.1], fun i r q hr hq => ?_⟩
  rcases Nat.lt_or_ge i l.length with hi | hi
  · rw [List.getElem?_append_left (by rw [h.1]; exact hi)] at hr
    rw [List.getElem?_append_left hi] at hq
    have e1 : (l ++ [(⟨t, lv, cz⟩ : Ent)]).take i = l.take i := List.take_append_of_le_length (by omega)
    have e2 : (l ++ [(⟨t, lv, cz⟩ : Ent)]).take (i + 1) = l.take (i + 1) := List.take_append_of_le_length (by omega)
    rw [e1, e2]
    exact h.2 i r q hr hq
  · have hlt := (List.getElem?_eq_some_iff.1 hq).1
    rw [List.length_append, List.length_singleton] at hlt
    have e : i = l.length := by omega
    subst e
    have hr' : r = ⟨t.name, .slice A n c, t.none, (lv : Int), cz, (lastNo l t.name : Int), .slice A2 n2 c2, (meetT (knowL l t.name) t).none⟩ := by
      rw [← h.1] at hr
      simpa using hr.symm
    have hq' : q = ⟨t, lv, cz⟩ := by simpa using hq.symm
    subst hr' hq'
    have e1 : (l ++ [(⟨t, lv, cz⟩ : Ent)]).take l.length = l := by simp
    have e2 : (l ++ [(⟨t, lv, cz⟩ : Ent)]).take (l.length + 1) = l ++ [⟨t, lv, cz⟩] := List.take_of_length_le (by simp)
    have e3 : knowL (l ++ [(⟨t, lv, cz⟩ : Ent)]) t.name = meetT (knowL l t.name) t := by rw [know_snoc]; exact if_pos rfl
    rw [e1, e2]
    simp only [e3]
    exact ⟨trivial, trivial, trivial, trivial, trivial, trivial, ⟨A, n, c, rfl, hc, hA⟩, A2, n2, c2, rfl, hc2, hA2⟩
theorem AllN.take (h : AllN w rs l) (k : Nat) : AllN w (rs.take k) (l.take k) := by
  refine ⟨by simp [h.1], fun i r q hr hq => ?_⟩
  have hik : i < k := by
    have := (List.getElem?_eq_some_iff.1 hr).1
    rw [List.length_take] at this
    omega
  rw [List.getElem?_take_of_lt hik] at hr hq
  rw [List.take_take, List.take_take, Nat.min_eq_left (by omega), Nat.min_eq_left (by omega)]
  exact h.2 i r q hr hq
def RowN (w : World) (B : Nat) (v : Value) (l : List Ent) : Prop := ∃ rs, w.ownsRow B 73 9 v l.length (rns rs) ∧ AllN w rs l
theorem RowN.nil_ (w : World) (B : Nat) : RowN w B (.slice none 0 0) [] := ⟨[], World.ownsRow_nil w B _ 9, AllN.nil_ w⟩
theorem RowN.below (h : RowN w B v l) (hb : Below w.heap.size w w') : RowN w' B v l := by
  obtain ⟨rs, h1, h2⟩ := h
  exact ⟨rs, own_below h1 hb, h2.mono fun _ _ _ hs => hs.below hb⟩
theorem RowN.far (h : RowN w B v l) (h1 : FarT w 56 row) (h2 : FarT w 73 row) (hg : w.grownBy w' row) : RowN w' B v l := by
  obtain ⟨rs, g1, g2⟩ := h
  exact ⟨rs, own_far g1 h2 hg, g2.mono fun _ _ _ hs => insFar hs h1 hg⟩
theorem RowN.form (h : RowN w B v l) : ∃ A c, v = .slice A l.length c ∧ l.length ≤ c ∧ c ≤ maxLen := by
  obtain ⟨rs, g1, _⟩ := h
  obtain ⟨A, c, e, h1, h2, _⟩ := own_form g1
  exact ⟨A, c, e, h1, h2⟩
theorem RowN.cut {A : Option Addr} {c : Nat} (h : RowN w B (.slice A n c) l) (hn : l.length = n) {k : Nat} (hk : k ≤ n) : RowN w B (.slice A k c) (l.take k) := by
  obtain ⟨rs, ⟨g1, g2⟩, g3⟩ := h
  have hl : (l.take k).length = k := by rw [List.length_take]; omega
  refine ⟨rs.take k, ⟨by rw [rns_length, List.length_take, hl, g3.1]; omega, ?_⟩, g3.take k⟩
  rcases g2 with ⟨e, e0⟩ | ⟨g, cap, cur, e1, e2, e3, e4, e5, e6, e7⟩
  · injection e with e1 e2 e3
    subst e1 e3
    rw [hl]
    exact .inl ⟨by rw [show k = 0 by omega], by omega⟩
  · injection e1 with f1 f2 f3
    subst f1 f3
    rw [hl]
    refine .inr ⟨g, c, cur, rfl, e2, e3, by omega, e5, e6, ?_⟩
    rw [← rns_take, ← e7, List.take_take]
    congr 1
    omega
theorem RowN.at_ (h : RowN w B v l) {k : Nat} {q : Ent} (hq : l[k]? = some q) :
    ∃ g c A n ca A2 n2 ca2, v = .slice (some ⟨g, 0, none⟩) l.length c ∧ l.length ≤ c ∧ B ≤ g ∧ g < w.heap.size ∧ (∃ cur, Blk w g 73 cur ∧ cur.size = c * 9) ∧ n ≤ ca ∧ n2 ≤ ca2 ∧ InS w 0 A n q.term.set ∧ InS w 0 A2 n2 (knowL (l.take (k + 1)) q.term.name).set ∧
      w.cell? ⟨g, k * 9, none⟩ = some (.string q.term.name) ∧ w.cell? ⟨g, k * 9 + 1, none⟩ = some (.slice A n ca) ∧ w.cell? ⟨g, k * 9 + 2, none⟩ = some (.bool q.term.none) ∧ w.cell? ⟨g, k * 9 + 3, none⟩ = some (.int .i64 (q.level : Int)) ∧ w.cell? ⟨g, k * 9 + 4, none⟩ = some (.int .i64 q.cause) ∧ w.cell? ⟨g, k * 9 + 5, none⟩ = some (.int .i64 (lastNo (l.take k) q.term.name : Int)) ∧
      w.cell? ⟨g, k * 9 + 6, none⟩ = some (.string q.term.name) ∧ w.cell? ⟨g, k * 9 + 7, none⟩ = some (.slice A2 n2 ca2) ∧ w.cell? ⟨g, k * 9 + 8, none⟩ = some (.bool (knowL (l.take (k + 1)) q.term.name).none) := by
  obtain ⟨rs, g1, g2⟩ := h
  have hk := (List.getElem?_eq_some_iff.1 hq).1
  have hr : rs[k]? = some (rs[k]'(by rw [g2.1]; exact hk)) := by simp
  obtain ⟨e1, e2, e3, e4, e5, e6, ⟨A, n, ca, e7, hc, hs⟩, A2, n2, ca2, e8, hc2, hs2⟩ := g2.2 k _ q hr hq
  obtain ⟨r0, r1, r2, r3, r4, r5, r6, r7, r8⟩ := rns_get rs k _ hr
  rcases g1.2 with ⟨_, h0⟩ | ⟨g, cap, cur, hv, hB, hg, h4, h5, h6, h7⟩
  · omega
  have hcell := g1.cells (g := g) (by rw [hv]; rfl)
  have ce : ∀ j u, (rns rs)[j]? = some u → w.cell? ⟨g, j, none⟩ = some u := fun j u hu => by
    have := hcell j u hu
    rwa [show (⟨g, 0, none⟩ : Addr).add j = ⟨g, j, none⟩ by unfold Addr.add; split <;> simp_all] at this
  rw [e1] at r0 r6
  rw [e7] at r1
  rw [e2] at r2
  rw [e3] at r3
  rw [e4] at r4
  rw [e5] at r5
  rw [e8] at r7
  rw [e6] at r8
  exact ⟨g, cap, A, n, ca, A2, n2, ca2, hv, h4, hB, (Array.getElem?_eq_some_iff.1 hg).1, ⟨cur, hg, h6⟩, hc, hc2, hs, hs2, ce _ _ r0, ce _ _ r1, ce _ _ r2, ce _ _ r3, ce _ _ r4, ce _ _ r5, ce _ _ r6, ce _ _ r7, ce _ _ r8⟩
def RowB (w : World) (B : Nat) (v : Value) (bs : List Nat) : Prop :=
  w.ownsRow B 3 1 v bs.length (ics (bs.map fun (k : Nat) => (k : Int))) ∨ ∃ g off cur, v = .slice (some ⟨g, off, none⟩) bs.length bs.length ∧ B ≤ g ∧ Blk w g 3 cur ∧ off + bs.length ≤ cur.size ∧ ∀ (j k : Nat), bs[j]? = some k → w.cell? ⟨g, off + j, none⟩ = some (.int .i64 (k : Int))
theorem RowB.nil_ (w : World) (B : Nat) : RowB w B (.slice none 0 0) [] := Or.inl (World.ownsRow_nil w B _ 1)
theorem RowB.below (h : RowB w B v bs) (hb : Below w.heap.size w w') : RowB w' B v bs := by
  rcases h with h | ⟨g, off, cur, e, hB, hg, hs, hc⟩
  · exact Or.inl (own_below h hb)
  · exact Or.inr ⟨g, off, cur, e, hB, hg.below hb hg.lt, hs, fun j k hk => (hb.cell (by exact hg.lt)).trans (hc j k hk)⟩
theorem RowB.far (h : RowB w B v bs) (h1 : FarT w 3 row) (hg : w.grownBy w' row) : RowB w' B v bs := by
  rcases h with h | ⟨g, off, cur, e, hB, hb, hs, hc⟩
  · exact Or.inl (own_far h h1 hg)
  · exact Or.inr ⟨g, off, cur, e, hB, hb.grown hg (h1 _ _ _ hb), hs, fun j k hk => (World.cell?_of_block (hg.block g hb.lt (h1 _ _ _ hb))).trans (hc j k hk)⟩
theorem RowB.form (h : RowB w B v bs) : ∃ A c, v = .slice A bs.length c ∧ bs.length ≤ c ∧ (0 < bs.length → ∃ g off, A = some ⟨g, off, none⟩ ∧ g < w.heap.size ∧ ∀ (j k : Nat), bs[j]? = some k → w.cell? ⟨g, off + j, none⟩ = some (.int .i64 (k : Int))) := by
  rcases h with h | ⟨g, off, cur, e, hB, hg, hs, hc⟩
  · rcases h.2 with ⟨e, h0⟩ | ⟨g, cap, cur, e, hB, hg, h4, h5, h6, h7⟩
    · exact ⟨none, 0, by rw [h0]; exact e, by omega, fun hn => by omega⟩
    · refine ⟨_, cap, e, h4, fun _ => ⟨g, 0, rfl, (Array.getElem?_eq_some_iff.1 hg).1, fun j k hk => ?_⟩⟩
      have := h.cells (g := g) (by rw [e]; rfl) j (.int .i64 (k : Int)) (by unfold ics; rw [List.getElem?_map, List.getElem?_map, hk]; rfl)
      rw [Nat.zero_add]
      rwa [show (⟨g, 0, none⟩ : Addr).add j = ⟨g, j, none⟩ by unfold Addr.add; split <;> simp_all] at this
  · exact ⟨_, _, e, Nat.le_refl _, fun _ => ⟨g, off, rfl, hg.lt, hc⟩⟩
theorem RowB.cut {A : Option Addr} {n c : Nat} (h : RowB w B (.slice A n c) bs) {k : Nat} (hk : k ≤ bs.length) (hp : 0 < bs.length) : RowB w B (.slice A k k) (bs.take k) := by
  have hl : (bs.take k).length = k := by rw [List.length_take]; omega
  rcases h with h | ⟨g, off, cur, e, hB, hg, hs, hc⟩
  · rcases h.2 with ⟨e, h0⟩ | ⟨g, cap, cur, e, hB, hg, h4, h5, h6, h7⟩
    · omega
    · injection e with e1 e2 e3
      subst e1
      refine Or.inr ⟨g, 0, cur, by rw [hl], hB, hg, by rw [hl, h6]; omega, fun j q hq => ?_⟩
      have hj := (List.getElem?_eq_some_iff.1 hq).1
      rw [hl] at hj
      rw [List.getElem?_take_of_lt hj] at hq
      have := h.cells (g := g) (by rfl) j (.int .i64 (q : Int)) (by unfold ics; rw [List.getElem?_map, List.getElem?_map, hq]; rfl)
      rw [Nat.zero_add]
      rwa [show (⟨g, 0, none⟩ : Addr).add j = ⟨g, j, none⟩ by unfold Addr.add; split <;> simp_all] at this
  · injection e with e1 e2 e3
    subst e1
    refine Or.inr ⟨g, off, cur, by rw [hl], hB, hg, by rw [hl]; omega, fun j q hq => ?_⟩
    have hj := (List.getElem?_eq_some_iff.1 hq).1
    rw [hl] at hj
    rw [List.getElem?_take_of_lt hj] at hq
    exact hc j q hq
def lastV (l : List Ent) (x : ByteArray) : Option Value := (lastF l x).map fun k => .int .i64 k
def MapN (w : World) (B : Nat) (mo : Option Nat) (l : List Ent) : Prop := (mo = none ∧ l = []) ∨ ∃ b n, mo = some b ∧ B ≤ b ∧ n ≤ cntN l ∧ OwnTold w b n (lastV l)
theorem MapN.below {mo : Option Nat} (h : MapN w B mo l) (hb : Below w.heap.size w w') : MapN w' B mo l := h.imp id fun ⟨b, n, h1, h2, h3, h4⟩ => ⟨b, n, h1, h2, h3, h4.below hb⟩
theorem MapN.cells {mo : Option Nat} (h : MapN w B mo l) {g : Nat} {cur : Array Value} {T : TypeId} {m : Nat × Nat} (hg : w.heap[g]? = some (.cells cur T m)) (hw : w.grownBy w' (some g)) : MapN w' B mo l :=
  h.imp id fun ⟨b, n, h1, h2, h3, h4⟩ => ⟨b, n, h1, h2, h3, h4.kept hw fun e => by
    injection e with e
    subst e
    obtain ⟨es, clock, hb⟩ := h4.block
    rw [hb] at hg
    cases hg⟩
def TrS (T : TypeId) : Prop := T = 61 ∨ T = 73 ∨ T = 3
theorem not_trS {T : TypeId} (h : (T == 61 || T == 73 || T == 3) = false) : ¬ TrS T := by
  simp only [Bool.or_eq_false_iff, beq_eq_false_iff_ne] at h
  rintro (e | e | e)
  · exact h.1.1 e
  · exact h.1.2 e
  · exact h.2 e
structure OkL (x : Tr) (bs : List Nat) : Prop where
  beg : BegOk x bs
  dec : DecOk x.l
  names : ∀ e ∈ x.l, e.term.name.size ≤ 1000000000
def TrP (w : World) (B : Nat) (v : Value) (x : Tr) : Prop :=
  ∃ g ve vb mo bs, v = .pointer (some ⟨g, 0, none⟩) ∧ B ≤ g ∧ Blk w g 61 #[ve, vb, .map mo] ∧ RowN w B ve x.l ∧ RowB w B vb bs ∧ MapN w B mo x.l ∧ OkL x bs
theorem TrP.below (h : TrP w B v x) (hb : Below w.heap.size w w') : TrP w' B v x := by
  obtain ⟨g, ve, vb, mo, bs, e, hB, h1, h2, h3, h4, h5⟩ := h
  exact ⟨g, ve, vb, mo, bs, e, hB, h1.below hb h1.lt, h2.below hb, h3.below hb, h4.below hb, h5⟩
theorem TrP.size (h : TrP w B v x) : B ≤ w.heap.size := by
  obtain ⟨g, ve, vb, mo, bs, e, hB, h1, _⟩ := h
  have := h1.lt
  omega
theorem TrP.far {g : Nat} {cur : Array Value} {T : TypeId} {m : Nat × Nat} (h : TrP w B v x) (hg : w.grownBy w' (some g)) (hw : w.heap[g]? = some (.cells cur T m)) (hT : ¬ TrS T) (hS : T ≠ 56) : TrP w' B v x := by
  obtain ⟨g0, ve, vb, mo, bs, e, hB, h1, h2, h3, h4, h5⟩ := h
  have far : ∀ T', T' ≠ T → FarT w T' (some g) := fun T' hne b cu m' hb e' => by
    injection e' with e'
    subst e'
    rw [hw] at hb
    injection hb with hb
    injection hb with _ hb _
    exact hne hb.symm
  exact ⟨g0, ve, vb, mo, bs, e, hB, h1.grown hg (far _ (fun e => hT (.inl e.symm)) _ _ _ h1), h2.far (far _ (fun e => hS e.symm)) (far _ (fun e => hT (.inr (.inl e.symm)))) hg, h3.far (far _ (fun e => hT (.inr (.inr e.symm)))) hg, h4.cells hw hg, h5⟩
def TrQ (w : World) (B : Nat) (v : Value) (l : List Ent) (bs : List Nat) : Prop :=
  ∃ g ve vb mo, v = .pointer (some ⟨g, 0, none⟩) ∧ B ≤ g ∧ Blk w g 61 #[ve, vb, .map mo] ∧ RowN w B ve l ∧ RowB w B vb bs ∧ MapN w B mo l
theorem TrP.q (h : TrP w B v x) : ∃ bs, TrQ w B v x.l bs ∧ OkL x bs := by
  obtain ⟨g, ve, vb, mo, bs, e, hB, h1, h2, h3, h4, h5⟩ := h
  exact ⟨bs, ⟨g, ve, vb, mo, e, hB, h1, h2, h3, h4⟩, h5⟩
theorem TrQ.p (h : TrQ w B v x.l bs) (h5 : OkL x bs) : TrP w B v x := by
  obtain ⟨g, ve, vb, mo, e, hB, h1, h2, h3, h4⟩ := h
  exact ⟨g, ve, vb, mo, bs, e, hB, h1, h2, h3, h4, h5⟩
theorem TrQ.below (h : TrQ w B v l bs) (hb : Below w.heap.size w w') : TrQ w' B v l bs := by
  obtain ⟨g, ve, vb, mo, e, hB, h1, h2, h3, h4⟩ := h
  exact ⟨g, ve, vb, mo, e, hB, h1.below hb h1.lt, h2.below hb, h3.below hb, h4.below hb⟩
end
end Go.Proofs.YtllogmokadcfmaaGreat.Trail
