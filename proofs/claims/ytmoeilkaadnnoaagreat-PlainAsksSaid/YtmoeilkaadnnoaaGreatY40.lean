/-
  Some texts of this claim, one behind the other: PlainMem. What each proves, and its condition, stands at its head.
-/
import Derived.Test.YtmoeilkaadnnoaaGreatY37
import Derived.Test.YtmoeilkaadnnoaaGreatY32
import Derived.Test.YtmoeilkaadnnoaaGreatY15
import Derived.Deep.OwnRows
/-
  The plain search's memory: what is asked of each name (a map of rows of slices), what was read (a map of manifests), the versions that are picked (a map of integers), the names that are open (a row that is written in place, from an offset on), the names that are tried (a row of structs); the steps that a search writes. No condition.
-/
namespace Go.Proofs.YtmoeilkaadnnoaaGreat.Plain
open Go Go.RowKit Go.Lib Go.Proofs.YtmoeilkaadnnoaaGreat.Span Go.Proofs.YtmoeilkaadnnoaaGreat.Need Go.Proofs.YtmoeilkaadnnoaaGreat.Mani Go.Proofs.YtmoeilkaadnnoaaGreat.Wire Go.Proofs.YtmoeilkaadnnoaaGreat.Depot Go.Proofs.YtmoeilkaadnnoaaGreat.Index Go.Proofs.YtmoeilkaadnnoaaGreat.Reach Go.Proofs.YtmoeilkaadnnoaaGreat.Pick Go.Proofs.YtmoeilkaadnnoaaGreat.Fit Go.Proofs.YtmoeilkaadnnoaaGreat.MapV
set_option linter.unusedVariables false
theorem alloc_bw (w : World) (o : Obj) : Below w.heap.size w (w.alloc o) := (Below.refl _ _).alloc (Nat.le_refl _) o
def OwnT (T : TypeId) : Prop := T = 73 ∨ T = 9 ∨ T = 46 ∨ T = 140
inductive Runs : World → World → Prop
  | refl (w : World) : Runs w w
  | step {w w1 w2 : World} {row : Option Nat} : Runs w w1 → w1.grownBy w2 row → (∀ T, ¬ OwnT T → FarT w1 T row) → Runs w w2
theorem Runs.trans {w w1 w2 : World} (h : Runs w w1) (h2 : Runs w1 w2) : Runs w w2 := by
  induction h2 with
  | refl => exact h
  | step _ hg hf ih => exact .step ih hg hf
theorem Runs.one {w w1 : World} {row : Option Nat} (hg : w.grownBy w1 row) (hf : ∀ T, ¬ OwnT T → FarT w T row) : Runs w w1 := .step (.refl w) hg hf
theorem Runs.of_below {w w1 : World} (hb : Below w.heap.size w w1) : Runs w w1 := .one (only_of_below hb none) fun T _ => farT_none w T
theorem Runs.size {w w1 : World} (h : Runs w w1) : w.heap.size ≤ w1.heap.size := by
  induction h with
  | refl => exact Nat.le_refl _
  | step _ hg _ ih => exact Nat.le_trans ih hg.size
theorem far_of {T T' : TypeId} (h : OwnT T') (hT : ¬ OwnT T) : T ≠ T' := fun e => hT (e ▸ h)
theorem own_search : OwnT 73 := .inl rfl
theorem own_string : OwnT 9 := .inr (.inl rfl)
theorem own_spans : OwnT 46 := .inr (.inr (.inl rfl))
theorem own_try : OwnT 140 := .inr (.inr (.inr rfl))
theorem not_own {T : TypeId} (h : (T == 73 || T == 9 || T == 46 || T == 140) = false) : ¬ OwnT T := by
  simp only [Bool.or_eq_false_iff, beq_eq_false_iff_ne] at h
  rintro (e | e | e | e)
  · exact h.1.1.1 e
  · exact h.1.1.2 e
  · exact h.1.2 e
  · exact h.2 e
theorem Runs.inN {w w1 : World} {A : Option Addr} {n : Nat} {l : List Nd} (h : Runs w w1) (hn : InN w A n l) : InN w1 A n l := by
  induction h with
  | refl => exact hn
  | step _ hg hf ih => exact ih.far (hf _ (not_own (by decide))) (hf _ (not_own (by decide))) hg
theorem Runs.blk {w w1 : World} {k : Nat} {T : TypeId} {cs : Array Value} (h : Runs w w1) (hb : Blk w k T cs) (hT : ¬ OwnT T) : Blk w1 k T cs := by
  induction h with
  | refl => exact hb
  | step _ hg hf ih => exact ih.grown hg (hf _ hT _ _ _ ih)
theorem Runs.rls {w w1 : World} {B n : Nat} {v : Value} {rs : List Vr} {l : List Rl} (h : Runs w w1) (hn : Rls w B v n rs l) : Rls w1 B v n rs l := by
  induction h with
  | refl => exact hn
  | step _ hg hf ih => exact ih.far (hf _ (not_own (by decide))) (hf _ (not_own (by decide))) (hf _ (not_own (by decide))) hg
theorem Runs.inS {w w1 : World} {A : Option Addr} {n : Nat} {l : List S} (h : Runs w w1) (hn : InS w 0 A n l) : InS w1 0 A n l := by
  induction h with
  | refl => exact hn
  | step _ hg hf ih => exact insFar ih (hf _ (not_own (by decide))) hg
/-! Numbers that are read, from any place of their row on. -/
def IntT (w : World) (A : Option Addr) (n : Nat) (L : List Int) : Prop := L.length = n ∧ (0 < n → ∃ ad cur m, A = some ad ∧ w.heap[ad.block]? = some (.cells cur 3 m) ∧ ∀ j z, L[j]? = some z → w.cell? (ad.add j) = some (.int .i64 z))
theorem IntT.far {w w1 : World} {A : Option Addr} {n : Nat} {L : List Int} {row : Option Nat} (h : IntT w A n L) (hf : FarT w 3 row) (hg : w.grownBy w1 row) : IntT w1 A n L := by
  refine ⟨h.1, fun hn => ?_⟩
  obtain ⟨ad, cur, m, hA, hb, hc⟩ := h.2 hn
  have hk : w1.heap[ad.block]? = w.heap[ad.block]? := hg.block _ (Array.getElem?_eq_some_iff.1 hb).1 (hf _ _ _ hb)
  exact ⟨ad, cur, m, hA, hk.trans hb, fun j z hz => (World.cell?_of_block (by rw [block_of_add]; exact hk)).trans (hc j z hz)⟩
theorem IntT.nil (w : World) : IntT w none 0 [] := ⟨rfl, fun h => absurd h (by omega)⟩
theorem intT_of {w : World} {A : Option Addr} {n c : Nat} {L : List Int} (h : w.ownsRow 0 3 1 (.slice A n c) n (ics L)) : IntT w A n L ∧ n ≤ c := by
  obtain ⟨A', c', e, hc, _, hr⟩ := own_form h
  injection e with e1 e2 e3
  subst e1 e3
  refine ⟨⟨by have := hr.1; rw [ics_length] at this; omega, fun hn => ?_⟩, hc⟩
  obtain ⟨ad, hA, hlt, hj⟩ := hr.2 hn
  rcases h.2 with ⟨e, _⟩ | ⟨g, cap, cur, e, _, hb, _⟩
  · injection e with e1 e2 e3
    omega
  · injection e with e1 e2 e3
    rw [hA] at e1
    injection e1 with e1
    subst e1
    exact ⟨_, cur, _, hA, hb, fun j z hz => hj j _ (by unfold ics; rw [List.getElem?_map, hz]; rfl)⟩
theorem IntT.tail {w : World} {A : Option Addr} {n c : Nat} {z : Int} {L : List Int} (h : IntT w A n (z :: L)) (hc : n ≤ c) : IntT w (if c = 1 then A else A.map (·.add 1)) (n - 1) L := by
  obtain ⟨h1, h2⟩ := h
  rw [List.length_cons] at h1
  refine ⟨by omega, fun hn => ?_⟩
  obtain ⟨ad, cur, m, hA, hb, hj⟩ := h2 (by omega)
  rw [if_neg (by omega), hA]
  exact ⟨ad.add 1, cur, m, rfl, by rw [block_of_add]; exact hb, fun j x hx => by rw [add_of_add, Nat.add_comm 1 j]; exact hj (j + 1) x hx⟩
/-! Texts in a row of their own, from an offset on. -/
def TxRow (w : World) (B : Nat) (v : Value) (L : List ByteArray) : Prop :=
  (v = .slice none 0 0 ∧ L = []) ∨ ∃ g off cap N f, v = .slice (some ⟨g, off, none⟩) L.length cap ∧ B ≤ g ∧ w.rowIs g 9 N f ∧ L.length ≤ cap ∧ cap ≤ maxLen ∧ off + cap ≤ N ∧ ∀ j x, L[j]? = some x → f (off + j) = .string x
theorem TxRow.beside {w w1 : World} {B : Nat} {v : Value} {L : List ByteArray} {row : Option Nat} (h : TxRow w B v L) (h1 : ∀ k, v.ownBlock = some k → some k ≠ row) (hg : w.grownBy w1 row) : TxRow w1 B v L := by
  rcases h with h | ⟨g, off, cap, N, f, e1, e2, e3, e4⟩
  · exact .inl h
  · exact .inr ⟨g, off, cap, N, f, e1, e2, e3.of_block (hg.block _ e3.lt (h1 g (by rw [e1]; rfl))), e4⟩
theorem TxRow.isRow {w : World} {B : Nat} {v : Value} {L : List ByteArray} (h : TxRow w B v L) {k : Nat} (e : v.ownBlock = some k) : B ≤ k ∧ ∃ cur, w.heap[k]? = some (.cells cur 9 (0, 0)) := by
  rcases h with ⟨rfl, _⟩ | ⟨g, off, cap, N, f, rfl, e2, ⟨c, e3, _⟩, e4⟩
  · cases e
  · injection e with e
    subst e
    exact ⟨e2, c, e3⟩
theorem TxRow.far {w w1 : World} {B : Nat} {v : Value} {L : List ByteArray} {row : Option Nat} (h : TxRow w B v L) (hf : FarT w 9 row) (hg : w.grownBy w1 row) : TxRow w1 B v L :=
  h.beside (fun k e => by obtain ⟨_, cur, hc⟩ := h.isRow e; exact hf _ _ _ hc) hg
theorem TxRow.farT {w : World} {B : Nat} {v : Value} {L : List ByteArray} (h : TxRow w B v L) {T : TypeId} (hT : T ≠ 9) : FarT w T v.ownBlock := by
  intro b cur m hb e
  obtain ⟨_, cur', hc⟩ := h.isRow e.symm
  rw [hc] at hb
  injection hb with hb
  injection hb with _ hb _
  exact hT hb.symm
theorem TxRow.len {w : World} {B : Nat} {A : Option Addr} {n c : Nat} {L : List ByteArray} (h : TxRow w B (.slice A n c) L) : L.length = n ∧ n ≤ c := by
  rcases h with ⟨e, rfl⟩ | ⟨g, off, cap, N, f, e1, e2, e3, e4, e5, e6⟩
  · injection e with _ e e2
    subst e e2
    exact ⟨rfl, Nat.le_refl _⟩
  · injection e1 with _ e1 e7
    subst e1 e7
    exact ⟨rfl, e4⟩
theorem TxRow.at_ {w : World} {B : Nat} {A : Option Addr} {n c j : Nat} {L : List ByteArray} {x : ByteArray} (h : TxRow w B (.slice A n c) L) (hx : L[j]? = some x) : ∃ g off, A = some ⟨g, off, none⟩ ∧ w.cell? ⟨g, off + j, none⟩ = some (.string x) := by
  have hj : j < L.length := (List.getElem?_eq_some_iff.1 hx).1
  rcases h with ⟨_, rfl⟩ | ⟨g, off, cap, N, f, e1, e2, e3, e4, e5, e6, e7⟩
  · cases hj
  · injection e1 with e1 _ _
    exact ⟨g, off, e1, by rw [e3.cell (by omega), e7 j x hx]⟩
theorem TxRow.tail {w : World} {B : Nat} {A : Option Addr} {n c : Nat} {x : ByteArray} {L : List ByteArray} (h : TxRow w B (.slice A n c) (x :: L)) : TxRow w B (.slice (if c = 1 then A else A.map (·.add 1)) (n - 1) (c - 1)) L := by
  rcases h with ⟨_, e⟩ | ⟨g, off, cap, N, f, e1, e2, e3, e4, e5, e6, e7⟩
  · cases e
  · injection e1 with f1 f2 f3
    subst f1 f2 f3
    rw [List.length_cons] at e4 ⊢
    by_cases hc : c = 1
    · rw [if_pos hc]
      exact .inr ⟨g, off, c - 1, N, f, rfl, e2, e3, by omega, by omega, by omega, fun j y hy => by
        have := (List.getElem?_eq_some_iff.1 hy).1
        omega⟩
    · rw [if_neg hc]
      refine .inr ⟨g, off + 1, c - 1, N, f, rfl, e2, e3, by omega, by omega, by omega, fun j y hy => ?_⟩
      rw [show off + 1 + j = off + (j + 1) by omega]
      exact e7 (j + 1) y hy
/-! What is asked of a name. -/
def AllH (w : World) (sv : List Value) (h : List (List S)) : Prop := sv.length = h.length ∧ ∀ (i : Nat) (x : Value) (s : List S), sv[i]? = some x → h[i]? = some s → ∃ A n c, x = .slice A n c ∧ InS w 0 A n s
theorem AllH.far {w w1 : World} {sv : List Value} {h : List (List S)} {row : Option Nat} (g : AllH w sv h) (hf : FarT w 61 row) (hg : w.grownBy w1 row) : AllH w1 sv h :=
  ⟨g.1, fun i x s hx hs => by
    obtain ⟨A, n, c, e, hi⟩ := g.2 i x s hx hs
    exact ⟨A, n, c, e, insFar hi hf hg⟩⟩
def HistIn (w : World) (B : Nat) (v : Value) (h : List (List S)) : Prop := ∃ sv, w.ownsRow B 46 1 v h.length sv ∧ AllH w sv h
theorem HistIn.far {w w1 : World} {B : Nat} {v : Value} {h : List (List S)} {row : Option Nat} (g : HistIn w B v h) (h1 : FarT w 46 row) (h2 : FarT w 61 row) (hg : w.grownBy w1 row) : HistIn w1 B v h := by
  obtain ⟨sv, g1, g2⟩ := g
  exact ⟨sv, own_far g1 h1 hg, g2.far h2 hg⟩
theorem HistIn.beside {w w1 : World} {B : Nat} {v : Value} {h : List (List S)} {row : Option Nat} (g : HistIn w B v h) (h1 : ∀ k, v.ownBlock = some k → some k ≠ row) (h2 : FarT w 61 row) (hg : w.grownBy w1 row) : HistIn w1 B v h := by
  obtain ⟨sv, g1, g2⟩ := g
  refine ⟨sv, ⟨g1.1, ?_⟩, g2.far h2 hg⟩
  rcases g1.2 with e | ⟨k, cap, cur, e1, e2, e3, e4⟩
  · exact .inl e
  · exact .inr ⟨k, cap, cur, e1, e2, (hg.block _ (Array.getElem?_eq_some_iff.1 e3).1 (h1 k (by rw [e1]; rfl))).trans e3, e4⟩
theorem HistIn.cut {w : World} {B : Nat} {A : Option Addr} {n c : Nat} {h : List (List S)} (g : HistIn w B (.slice A n c) h) (hn : 0 < n) : HistIn w B (.slice A (n - 1) c) h.dropLast := by
  obtain ⟨sv, ⟨g1, g2⟩, g3, g4⟩ := g
  rcases g2 with ⟨e, _⟩ | ⟨k, cap, cur, e1, e2, e3, e4, e5, e6, e7⟩
  · injection e with _ e _
    omega
  · injection e1 with f1 f2 f3
    refine ⟨sv.dropLast, ⟨by rw [List.length_dropLast, List.length_dropLast, g1]; omega, .inr ⟨k, cap, cur, by rw [f1, f3, List.length_dropLast, f2], e2, e3, by rw [List.length_dropLast]; omega, e5, e6, ?_⟩⟩, by rw [List.length_dropLast, List.length_dropLast, g3], fun i x s hx hs => ?_⟩
    · rw [List.length_dropLast, ← e7, List.dropLast_eq_take, List.take_take, List.length_take]
      congr 1
      have : cur.toList.length = cap * 1 := by rw [Array.length_toList, e6]
      omega
    · rw [List.getElem?_dropLast] at hx hs
      split at hx
      · split at hs
        · exact g4 i x s hx hs
        · cases hs
      · cases hx
def AskM (w : World) (B ma K : Nat) (h : ByteArray → List (List S)) : Prop := ∃ f, OwnTold w ma K f ∧ (∀ a, f a = none → h a = []) ∧ (∀ a v, f a = some v → HistIn w B v (h a)) ∧ ∀ a b u v, a ≠ b → f a = some u → f b = some v → ∀ k, u.ownBlock = some k → v.ownBlock ≠ some k
theorem AskM.far {w w1 : World} {B ma K : Nat} {h : ByteArray → List (List S)} {row : Option Nat} (g : AskM w B ma K h) (hm : some ma ≠ row) (h1 : FarT w 46 row) (h2 : FarT w 61 row) (hg : w.grownBy w1 row) : AskM w1 B ma K h := by
  obtain ⟨f, g1, g2, g3, g4⟩ := g
  exact ⟨f, g1.kept hg hm, g2, fun a v ha => (g3 a v ha).far h1 h2 hg, g4⟩
/-! What was read. -/
def ReadM (w : World) (mr K : Nat) (X : List Kn) : Prop := ∃ f, OwnTold w mr K f ∧ ∀ a v, f a = some v → ∃ A n c B rs, v = .agg #[.string a, .slice A n c] ∧ Rls w B (.slice A n c) n rs (getX X a).1
theorem ReadM.far {w w1 : World} {mr K : Nat} {X : List Kn} {row : Option Nat} (g : ReadM w mr K X) (hm : some mr ≠ row) (h1 : FarT w 61 row) (h2 : FarT w 54 row) (h3 : FarT w 116 row) (hg : w.grownBy w1 row) : ReadM w1 mr K X := by
  obtain ⟨f, g1, g2⟩ := g
  refine ⟨f, g1.kept hg hm, fun a v ha => ?_⟩
  obtain ⟨A, n, c, B, rs, e, hr⟩ := g2 a v ha
  exact ⟨A, n, c, B, rs, e, hr.far h1 h2 h3 hg⟩
/-! The versions that are picked. -/
def VersM (w : World) (mv K : Nat) (vf : ByteArray → Option Int) : Prop := OwnTold w mv K (fun a => (vf a).map (Value.int .i64))
/-! The names that are tried. -/
abbrev Tv := ByteArray × Value × Value
def trcs : List Tv → List Value
  | [] => []
  | q :: t => .string q.1 :: q.2.1 :: q.2.2 :: trcs t
theorem trcs_length (l : List Tv) : (trcs l).length = l.length * 3 := by
  induction l with
  | nil => rfl
  | cons s t ih => simp [trcs, ih]; omega
theorem trcs_append (l m : List Tv) : trcs (l ++ m) = trcs l ++ trcs m := by
  induction l with
  | nil => rfl
  | cons s t ih => simp [trcs, ih]
theorem trcs_get (l : List Tv) : ∀ (i : Nat) (r : Tv), l[i]? = some r → (trcs l)[i * 3]? = some (.string r.1) ∧ (trcs l)[i * 3 + 1]? = some r.2.1 ∧ (trcs l)[i * 3 + 2]? = some r.2.2 := by
  induction l with
  | nil => intro i s h; simp at h
  | cons x t ih =>
    intro i s h
    cases i with
    | zero => simp at h; subst h; exact ⟨rfl, rfl, rfl⟩
    | succ i =>
      rw [List.getElem?_cons_succ] at h
      have := ih i s h
      rw [show (i + 1) * 3 = i * 3 + 1 + 1 + 1 by omega]
      exact this
abbrev Tr := ByteArray × List Int × List Nd
def AllT (w : World) (rs : List Tv) (F : List Tr) : Prop := rs.length = F.length ∧ ∀ (i : Nat) (r : Tv) (q : Tr), rs[i]? = some r → F[i]? = some q → r.1 = q.1 ∧ (∃ A n c, r.2.1 = .slice A n c ∧ n ≤ c ∧ IntT w A n q.2.1) ∧ ∃ A n c, r.2.2 = .slice A n c ∧ InN w A n q.2.2
theorem AllT.far {w w1 : World} {rs : List Tv} {F : List Tr} {row : Option Nat} (g : AllT w rs F) (h0 : FarT w 3 row) (h1 : FarT w 61 row) (h2 : FarT w 54 row) (hg : w.grownBy w1 row) : AllT w1 rs F :=
  ⟨g.1, fun i r q hr hq => by
    obtain ⟨e, ⟨A, n, c, e1, e2, e3⟩, A', n', c', f1, f3⟩ := g.2 i r q hr hq
    exact ⟨e, ⟨A, n, c, e1, e2, e3.far h0 hg⟩, A', n', c', f1, f3.far h1 h2 hg⟩⟩
theorem AllT.slices {w : World} {rs : List Tv} {F : List Tr} (h : AllT w rs F) : ∀ r ∈ rs, (∃ A n c, r.2.1 = .slice A n c) ∧ ∃ A n c, r.2.2 = .slice A n c := by
  intro r hr
  obtain ⟨i, hi, e⟩ := List.getElem_of_mem hr
  have hlt : i < F.length := by rw [← h.1]; exact hi
  obtain ⟨_, ⟨A, n, c, h2, _⟩, A', n', c', h3, _⟩ := h.2 i r F[i] (by rw [← e]; simp) (by simp)
  exact ⟨⟨A, n, c, h2⟩, A', n', c', h3⟩
def TriesIn (w : World) (B : Nat) (v : Value) (F : List Tr) : Prop := ∃ rs, w.ownsRow B 140 3 v F.length (trcs rs) ∧ AllT w rs F
theorem TriesIn.far {w w1 : World} {B : Nat} {v : Value} {F : List Tr} {row : Option Nat} (g : TriesIn w B v F) (h : FarT w 140 row) (h0 : FarT w 3 row) (h1 : FarT w 61 row) (h2 : FarT w 54 row) (hg : w.grownBy w1 row) : TriesIn w1 B v F := by
  obtain ⟨rs, g1, g2⟩ := g
  exact ⟨rs, own_far g1 h hg, g2.far h0 h1 h2 hg⟩
/-! All of it but the search's own box. -/
structure Mem (X : List Kn) (B : Nat) (mr ma mv : Nat) (vo vt : Value) (K : Nat) (h : ByteArray → List (List S)) (vf : ByteArray → Option Int) (O : List ByteArray) (F : List Tr) (w : World) : Prop where
  ra : mr ≠ ma
  rv : mr ≠ mv
  av : ma ≠ mv
  br : B ≤ mr
  ba : B ≤ ma
  bv : B ≤ mv
  read : ReadM w mr K X
  ask : AskM w B ma K h
  op : TxRow w B vo O
  vers : VersM w mv K vf
  tries : TriesIn w B vt F
section
variable {X : List Kn} {B mr ma mv K : Nat} {vo vt : Value} {h : ByteArray → List (List S)} {vf : ByteArray → Option Int} {O : List ByteArray} {F : List Tr} {w w1 : World}
theorem ReadM.lt (g : ReadM w mr K X) : mr < w.heap.size := by obtain ⟨f, g1, _⟩ := g; exact g1.lt
theorem AskM.lt (g : AskM w B ma K h) : ma < w.heap.size := by obtain ⟨f, g1, _⟩ := g; exact g1.lt
theorem VersM.lt (g : VersM w mv K vf) : mv < w.heap.size := OwnTold.lt g
theorem Mem.far (g : Mem X B mr ma mv vo vt K h vf O F w) {row : Option Nat} (hr : some mr ≠ row) (ha : some ma ≠ row) (hv : some mv ≠ row) (h1 : FarT w 9 row) (h2 : FarT w 46 row) (h3 : FarT w 140 row) (h4 : FarT w 61 row) (h5 : FarT w 54 row) (h6 : FarT w 116 row) (h7 : FarT w 3 row) (hg : w.grownBy w1 row) : Mem X B mr ma mv vo vt K h vf O F w1 where
  ra := g.ra
  rv := g.rv
  av := g.av
  br := g.br
  ba := g.ba
  bv := g.bv
  read := g.read.far hr h4 h5 h6 hg
  ask := g.ask.far ha h2 h4 hg
  op := g.op.far h1 hg
  vers := OwnTold.kept g.vers hg hv
  tries := g.tries.far h3 h7 h4 h5 hg
theorem Mem.below (g : Mem X B mr ma mv vo vt K h vf O F w) (hb : Below w.heap.size w w1) : Mem X B mr ma mv vo vt K h vf O F w1 :=
  g.far (by simp) (by simp) (by simp) (farT_none _ _) (farT_none _ _) (farT_none _ _) (farT_none _ _) (farT_none _ _) (farT_none _ _) (farT_none _ _) (only_of_below hb none)
theorem ne_map_blk {b mr : Nat} {T : TypeId} {cs : Array Value} {f : ByteArray → Option Value} (hb : Blk w b T cs) (hm : OwnTold w mr K f) : mr ≠ b := by
  intro e
  subst e
  obtain ⟨es, clock, h1⟩ := hm.block
  rw [show w.heap[mr]? = _ from hb] at h1
  cases h1
theorem Mem.blk {b : Nat} {T : TypeId} {cs : Array Value} (g : Mem X B mr ma mv vo vt K h vf O F w) (hb : Blk w b T cs) (hT : (T == 9 || T == 46 || T == 140 || T == 61 || T == 54 || T == 116 || T == 3) = false) (hg : w.grownBy w1 (some b)) : Mem X B mr ma mv vo vt K h vf O F w1 := by
  simp only [Bool.or_eq_false_iff, beq_eq_false_iff_ne] at hT
  obtain ⟨⟨⟨⟨⟨⟨t1, t2⟩, t3⟩, t4⟩, t5⟩, t6⟩, t7⟩ := hT
  have e1 : mr ≠ b := by obtain ⟨f, g1, _⟩ := g.read; exact ne_map_blk hb g1
  have e2 : ma ≠ b := by obtain ⟨f, g1, _⟩ := g.ask; exact ne_map_blk hb g1
  have e3 : mv ≠ b := ne_map_blk hb g.vers
  exact g.far (by simpa using e1) (by simpa using e2) (by simpa using e3) (farT_blk hb (Ne.symm t1)) (farT_blk hb (Ne.symm t2)) (farT_blk hb (Ne.symm t3)) (farT_blk hb (Ne.symm t4)) (farT_blk hb (Ne.symm t5)) (farT_blk hb (Ne.symm t6)) (farT_blk hb (Ne.symm t7)) hg
theorem farT_ownF {n : Nat} {b : Nat} {f : ByteArray → Option Value} (T : TypeId) (g : OwnTold w b n f) : FarT w T (some b) := by
  obtain ⟨es, clock, hb⟩ := g.block
  intro b' cur m h e
  injection e with e
  subst e
  rw [hb] at h
  cases h
theorem Mem.readTo (g : Mem X B mr ma mv vo vt K h vf O F w) (hg : w.grownBy w1 (some mr)) {K' : Nat} (hK : K ≤ K') (hr : ReadM w1 mr K' X) : Mem X B mr ma mv vo vt K' h vf O F w1 := by
  obtain ⟨f, g1, _⟩ := g.read
  have F0 := fun T => farT_ownF T g1
  have ga := g.ask.far (row := some mr) (by simpa using g.ra.symm) (F0 _) (F0 _) hg
  obtain ⟨fa, a1, a2⟩ := ga
  exact ⟨g.ra, g.rv, g.av, g.br, g.ba, g.bv, hr, ⟨fa, a1.mono hK, a2⟩, g.op.far (F0 _) hg, (OwnTold.kept g.vers hg (by simpa using g.rv.symm)).mono hK, g.tries.far (F0 _) (F0 _) (F0 _) (F0 _) hg⟩
theorem Mem.versTo (g : Mem X B mr ma mv vo vt K h vf O F w) (hg : w.grownBy w1 (some mv)) {K' : Nat} {vf' : ByteArray → Option Int} (hK : K ≤ K') (hr : VersM w1 mv K' vf') : Mem X B mr ma mv vo vt K' h vf' O F w1 := by
  have F0 := fun T => farT_ownF T g.vers
  have ga := g.ask.far (row := some mv) (by simpa using g.av) (F0 _) (F0 _) hg
  obtain ⟨fa, a1, a2⟩ := ga
  have gr := g.read.far (row := some mv) (by simpa using g.rv) (F0 _) (F0 _) (F0 _) hg
  obtain ⟨fr, r1, r2⟩ := gr
  exact ⟨g.ra, g.rv, g.av, g.br, g.ba, g.bv, ⟨fr, r1.mono hK, r2⟩, ⟨fa, a1.mono hK, a2⟩, g.op.far (F0 _) hg, hr, g.tries.far (F0 _) (F0 _) (F0 _) (F0 _) hg⟩
theorem Mem.mono (g : Mem X B mr ma mv vo vt K h vf O F w) {K' : Nat} (hK : K ≤ K') : Mem X B mr ma mv vo vt K' h vf O F w := by
  obtain ⟨fr, r1, r2⟩ := g.read
  obtain ⟨fa, a1, a2⟩ := g.ask
  exact ⟨g.ra, g.rv, g.av, g.br, g.ba, g.bv, ⟨fr, r1.mono hK, r2⟩, ⟨fa, a1.mono hK, a2⟩, g.op, OwnTold.mono g.vers hK, g.tries⟩
theorem Mem.congr (g : Mem X B mr ma mv vo vt K h vf O F w) {h' : ByteArray → List (List S)} {vf' : ByteArray → Option Int} (e : ∀ a, h a = h' a) (e2 : ∀ a, vf a = vf' a) : Mem X B mr ma mv vo vt K h' vf' O F w := by
  rw [← (funext e : h = h'), ← (funext e2 : vf = vf')]
  exact g
end
/-! The search's box and all of its memory. -/
def Srch (X : List Kn) (w0 : World) (b : Nat) (o : Option Addr) (K : Nat) (fuel : Int) (h : ByteArray → List (List S)) (vf : ByteArray → Option Int) (O : List ByteArray) (F : List Tr) (vt : Value) (w : World) : Prop :=
  ∃ mr ma mv vo, Blk w b 73 #[.pointer o, .int .i64 fuel, .map (some mr), .map (some ma), vo, .map (some mv), vt] ∧ Mem X w0.heap.size mr ma mv vo vt K h vf O F w ∧ w0.heap.size ≤ b ∧ Below w0.heap.size w0 w
def FineH (K : Nat) (h : ByteArray → List (List S)) : Prop := ∀ a, (h a).length ≤ K ∧ ∀ s ∈ h a, isSet (-1) s = true ∧ s.length ≤ 1 + 6 * K
theorem FineH.mono {K K' : Nat} {h : ByteArray → List (List S)} (g : FineH K h) (e : K ≤ K') : FineH K' h := fun a => ⟨Nat.le_trans (g a).1 e, fun s hs => ⟨((g a).2 s hs).1, by have := ((g a).2 s hs).2; omega⟩⟩
theorem FineH.in_ {K : Nat} {h : ByteArray → List (List S)} (g : FineH K h) (a : ByteArray) : isSet (-1) (inH (h a)) = true ∧ (inH (h a)).length ≤ 1 + 6 * K := by
  unfold inH
  cases e : (h a).getLast? with
  | none => exact ⟨allS_set, by show 1 ≤ 1 + 6 * K; omega⟩
  | some s => exact (g a).2 s (List.mem_of_getLast? e)
theorem FineH.add {K : Nat} {h h' : ByteArray → List (List S)} (g : FineH K h) {x : ByteArray} {s : List S} (hs : isSet (-1) s = true) (hl : s.length ≤ 6) (e : ∀ a, h' a = if x = a then h a ++ [meetS (inH (h a)) s] else h a) : FineH (K + 1) h' := by
  intro a
  rw [e a]
  have ga := (g.mono (Nat.le_succ K)) a
  split
  · refine ⟨by rw [List.length_append]; have := (g a).1; simp; omega, fun t ht => ?_⟩
    rcases List.mem_append.1 ht with ht | ht
    · exact ga.2 t ht
    · rw [List.mem_singleton.1 ht]
      have gi := g.in_ a
      exact ⟨nf_set _, by have := meet_len gi.1 hs; omega⟩
  · exact ga
theorem FineH.less {K : Nat} {h h' : ByteArray → List (List S)} (g : FineH K h) (e : ∀ a, h' a = h a ∨ h' a = (h a).dropLast) : FineH K h' := by
  intro a
  rcases e a with e | e
  · rw [e]; exact g a
  · rw [e]
    exact ⟨by rw [List.length_dropLast]; have := (g a).1; omega, fun s hs => (g a).2 s (List.dropLast_subset _ hs)⟩
end Go.Proofs.YtmoeilkaadnnoaaGreat.Plain
