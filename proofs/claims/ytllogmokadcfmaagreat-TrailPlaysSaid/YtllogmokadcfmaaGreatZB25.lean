/-
  Some texts of this claim, one behind the other: TrailCells, TrailDo. What each proves, and its condition, stands at its head.
-/
import Derived.Test.YtllogmokadcfmaaGreatZB20
import Derived.Test.YtllogmokadcfmaaGreatZB24
import Derived.Test.YtllogmokadcfmaaGreatZB23
import Derived.Test.YtllogmokadcfmaaGreatZB2
/-
  Slices of entries of a trail in memory, of any type T of that form: as a call makes them; their terms' sets lie in rows of spans, or below a base. No condition.
-/
namespace Go.Proofs.YtllogmokadcfmaaGreat.Trail
open Go Go.RowKit Go.Lib Go.Proofs.YtllogmokadcfmaaGreat.Span Go.Proofs.YtllogmokadcfmaaGreat.Need Go.Proofs.YtllogmokadcfmaaGreat.Mani Go.Proofs.YtllogmokadcfmaaGreat.Grow Go.Proofs.YtllogmokadcfmaaGreat.Term
set_option linter.unusedVariables false
abbrev Re := ByteArray × Value × Bool × Int × Int
def ens : List Re → List Value
  | [] => []
  | r :: t => .string r.1 :: r.2.1 :: .bool r.2.2.1 :: .int .i64 r.2.2.2.1 :: .int .i64 r.2.2.2.2 :: ens t
theorem ens_length (l : List Re) : (ens l).length = l.length * 5 := by
  induction l with
  | nil => rfl
  | cons s t ih => simp [ens, ih]; omega
theorem ens_append (l m : List Re) : ens (l ++ m) = ens l ++ ens m := by
  induction l with
  | nil => rfl
  | cons s t ih => simp [ens, ih]
theorem ens_one (l : List Re) (h : ∀ r ∈ l, ∃ A n c, r.2.1 = .slice A n c) : ∀ u ∈ ens l, u.oneCell' = true := by
  induction l with
  | nil => intro u hu; cases hu
  | cons s t ih =>
    intro u hu
    simp only [ens, List.mem_cons] at hu
    rcases hu with rfl | rfl | rfl | rfl | rfl | hu
    · rfl
    · obtain ⟨A, n, c, e⟩ := h s (by simp)
      rw [e]; rfl
    · rfl
    · rfl
    · rfl
    · exact ih (fun r hr => h r (by simp [hr])) u hu
theorem ens_get (l : List Re) : ∀ (i : Nat) (r : Re), l[i]? = some r → (ens l)[i * 5]? = some (.string r.1) ∧ (ens l)[i * 5 + 1]? = some (r.2.1) ∧ (ens l)[i * 5 + 2]? = some (.bool r.2.2.1) ∧ (ens l)[i * 5 + 3]? = some (.int .i64 r.2.2.2.1) ∧ (ens l)[i * 5 + 4]? = some (.int .i64 r.2.2.2.2) := by
  induction l with
  | nil => intro i s h; simp at h
  | cons x t ih =>
    intro i s h
    cases i with
    | zero => simp at h; subst h; exact ⟨rfl, rfl, rfl, rfl, rfl⟩
    | succ i =>
      rw [List.getElem?_cons_succ] at h
      have := ih i s h
      have e : (i + 1) * 5 = i * 5 + 1 + 1 + 1 + 1 + 1 := by omega
      rw [e]
      refine ⟨this.1, ?_, ?_, ?_, ?_⟩
      · rw [show i * 5 + 1 + 1 + 1 + 1 + 1 + 1 = (i * 5 + 1) + 1 + 1 + 1 + 1 + 1 by omega]; exact this.2.1
      · rw [show i * 5 + 1 + 1 + 1 + 1 + 1 + 2 = (i * 5 + 2) + 1 + 1 + 1 + 1 + 1 by omega]; exact this.2.2.1
      · rw [show i * 5 + 1 + 1 + 1 + 1 + 1 + 3 = (i * 5 + 3) + 1 + 1 + 1 + 1 + 1 by omega]; exact this.2.2.2.1
      · rw [show i * 5 + 1 + 1 + 1 + 1 + 1 + 4 = (i * 5 + 4) + 1 + 1 + 1 + 1 + 1 by omega]; exact this.2.2.2.2
theorem addr_anyE (a : Addr) (i j : Nat) (hj : 0 < j) : a.add (i + j) = ⟨(a.add i).block, (a.add i).off + j, none⟩ := by
  unfold Addr.add
  by_cases hi : i = 0
  · subst hi; simp; intro h; omega
  · simp [hi]; omega
theorem insFarB {w w' : World} {row : Option Nat} {B n : Nat} {A : Option Addr} {l : List S} (h : InS w B A n l) (hf : FarT w 56 row) (hB : ∀ r, row = some r → B ≤ r) (hg : w.grownBy w' row) : InS w' B A n l := by
  have key : ∀ ad, A = some ad → 0 < n → ad.block < w.heap.size ∧ some ad.block ≠ row := fun ad hA hn => by
    obtain ⟨ad', hA', hlt, _⟩ := h.1.2 hn
    rw [hA] at hA'
    injection hA' with hA'
    subst hA'
    refine ⟨hlt, fun e => ?_⟩
    rcases h.2 ad hA hn with h1 | ⟨cur, k, h1⟩
    · have := hB _ e.symm; omega
    · exact hf _ _ _ h1 e
  refine ⟨⟨h.1.1, fun hn => ?_⟩, fun ad hA hn => ?_⟩
  · obtain ⟨ad, hA, hlt, hc⟩ := h.1.2 hn
    have hk := key ad hA hn
    refine ⟨ad, hA, Nat.lt_of_lt_of_le hlt hg.size, fun i s hs => ?_⟩
    obtain ⟨c1, c2⟩ := hc i s hs
    have hb := hg.block _ hk.1 hk.2
    constructor
    · exact (World.cell?_of_block (by rw [block_of_add]; exact hb)).trans c1
    · exact (World.cell?_of_block (by simp only [block_of_add]; exact hb)).trans c2
  · have hk := key ad hA hn
    rcases h.2 ad hA hn with h1 | ⟨cur, m, h1⟩
    · exact .inl h1
    · exact .inr ⟨cur, m, (hg.block _ hk.1 hk.2).trans h1⟩
def AllE (w : World) (B : Nat) (rs : List Re) (l : List Ent) : Prop :=
  rs.length = l.length ∧ ∀ (i : Nat) (r : Re) (q : Ent), rs[i]? = some r → l[i]? = some q → r.1 = q.term.name ∧ r.2.2.1 = q.term.none ∧ r.2.2.2.1 = (q.level : Int) ∧ r.2.2.2.2 = q.cause ∧ ∃ A n c, r.2.1 = .slice A n c ∧ InS w B A n q.term.set
section
variable {w w' w1 : World} {B n m k : Nat} {v v1 : Value} {A : Option Addr} {rs rs2 : List Re} {l l2 : List Ent} {T : TypeId} {row : Option Nat}
theorem AllE.mono (h : AllE w B rs l) (hk : ∀ A n s, InS w B A n s → InS w' B A n s) : AllE w' B rs l :=
  ⟨h.1, fun i r q hr hq => by
    obtain ⟨e1, e3, e4, e5, A, n, c, e2, hs⟩ := h.2 i r q hr hq
    exact ⟨e1, e3, e4, e5, A, n, c, e2, hk _ _ _ hs⟩⟩
theorem AllE.append (h : AllE w B rs l) (h2 : AllE w B rs2 l2) : AllE w B (rs ++ rs2) (l ++ l2) :=
  ⟨by simp [h.1, h2.1], fun i r q hr hq => by
    rcases Nat.lt_or_ge i rs.length with hi | hi
    · rw [List.getElem?_append_left hi] at hr
      rw [List.getElem?_append_left (by rw [← h.1]; exact hi)] at hq
      exact h.2 i r q hr hq
    · rw [List.getElem?_append_right hi] at hr
      rw [List.getElem?_append_right (by rw [← h.1]; exact hi), ← h.1] at hq
      exact h2.2 _ r q hr hq⟩
theorem AllE.one {nm : ByteArray} {k c lv : Nat} {s : List S} {z : Bool} {cz : Int} (h : InS w B A k s) : AllE w B [(nm, .slice A k c, z, (lv : Int), cz)] [⟨⟨nm, s, z⟩, lv, cz⟩] :=
  ⟨rfl, fun i r q hr hq => by
    rcases i with _ | i
    · simp at hr hq
      subst hr hq
      exact ⟨rfl, rfl, rfl, rfl, A, k, c, rfl, h⟩
    · simp at hr⟩
theorem AllE.nil_ : AllE w B [] [] := ⟨rfl, fun i r q hr _ => by simp at hr⟩
theorem AllE.slices (h : AllE w B rs l) : ∀ r ∈ rs, ∃ A n c, r.2.1 = .slice A n c := fun r hr => by
  obtain ⟨i, hi, rfl⟩ := List.getElem_of_mem hr
  obtain ⟨_, _, _, _, A, n, c, e, _⟩ := h.2 i rs[i] (l[i]'(by rw [← h.1]; exact hi)) (by simp) (by simp)
  exact ⟨A, n, c, e⟩
def EnR (T : TypeId) (w : World) (B : Nat) (A : Option Addr) (n : Nat) (l : List Ent) : Prop :=
  ∃ rs, Reads w w.heap.size 5 A n (ens rs) ∧ AllE w B rs l ∧ ∀ ad, A = some ad → 0 < n → B ≤ ad.block ∧ ∃ cur m, w.heap[ad.block]? = some (.cells cur T m)
theorem EnR.nil_ (T : TypeId) (w : World) (B : Nat) (A : Option Addr) : EnR T w B A 0 [] := ⟨[], ⟨rfl, fun h => absurd h (by omega)⟩, AllE.nil_, fun _ _ h => absurd h (by omega)⟩
theorem EnR.len (h : EnR T w B A n l) : l.length = n := by
  obtain ⟨rs, h1, h2, _⟩ := h
  have := h1.1
  rw [ens_length] at this
  have := h2.1
  omega
theorem EnR.far (h : EnR T w B A n l) (h1 : FarT w 56 row) (h2 : FarT w T row) (hB : ∀ r, row = some r → B ≤ r) (hg : w.grownBy w' row) : EnR T w' B A n l := by
  obtain ⟨rs, g1, g2, g3⟩ := h
  have blk : ∀ ad, A = some ad → 0 < n → w'.heap[ad.block]? = w.heap[ad.block]? := fun ad hA hn => by
    obtain ⟨ad', hA', hlt, _⟩ := g1.2 hn
    rw [hA] at hA'
    injection hA' with hA'
    subst hA'
    obtain ⟨_, cur, k, h5⟩ := g3 ad hA hn
    exact hg.block _ hlt (h2 _ _ _ h5)
  refine ⟨rs, ⟨g1.1, fun hn => ?_⟩, g2.mono fun _ _ _ hs => insFarB hs h1 hB hg, fun ad hA hn => ?_⟩
  · obtain ⟨ad, hA, hlt, hc⟩ := g1.2 hn
    exact ⟨ad, hA, Nat.lt_of_lt_of_le hlt hg.size, fun j u hu => (World.cell?_of_block (by rw [block_of_add]; exact blk ad hA hn)).trans (hc j u hu)⟩
  · obtain ⟨h0, cur, k, h5⟩ := g3 ad hA hn
    exact ⟨h0, cur, k, (blk ad hA hn).trans h5⟩
theorem EnR.on (h : EnR T w B A n l) (hb : Below w.heap.size w w') : EnR T w' B A n l := by
  obtain ⟨rs, g1, g2, g3⟩ := h
  refine ⟨rs, (Reads.below g1 hb).more hb.size, g2.mono fun _ _ _ hs => hs.below hb, fun ad hA hn => ?_⟩
  obtain ⟨ad', hA', hlt, _⟩ := g1.2 hn
  rw [hA] at hA'
  injection hA' with hA'
  subst hA'
  obtain ⟨h0, cur, k, h5⟩ := g3 ad hA hn
  exact ⟨h0, cur, k, (hb.block _ hlt).trans h5⟩
theorem EnR.at_ (h : EnR T w B A n l) (hk : k < n) :
    ∃ ad q A' n' c', A = some ad ∧ ad.block < w.heap.size ∧ l[k]? = some q ∧ InS w B A' n' q.term.set ∧ w.cell? (ad.add (k * 5)) = some (.string q.term.name) ∧ w.cell? ⟨(ad.add (k * 5)).block, (ad.add (k * 5)).off + 1, none⟩ = some (.slice A' n' c') ∧ w.cell? ⟨(ad.add (k * 5)).block, (ad.add (k * 5)).off + 2, none⟩ = some (.bool q.term.none) ∧
      w.cell? ⟨(ad.add (k * 5)).block, (ad.add (k * 5)).off + 3, none⟩ = some (.int .i64 (q.level : Int)) ∧ w.cell? ⟨(ad.add (k * 5)).block, (ad.add (k * 5)).off + 4, none⟩ = some (.int .i64 q.cause) := by
  have hl := h.len
  obtain ⟨rs, h1, h2, h3⟩ := h
  obtain ⟨ad, hA, hb, hc⟩ := h1.2 (by omega)
  have hr : k < rs.length := by rw [h2.1]; omega
  obtain ⟨e1, e3, e4, e5, A', n', c', e2, hs⟩ := h2.2 k rs[k] (l[k]'(by omega)) (by simp) (by simp)
  obtain ⟨g1, g2, g3, g4, g5⟩ := ens_get rs k rs[k] (by simp)
  refine ⟨ad, l[k]'(by omega), A', n', c', hA, hb, by simp, hs, ?_, ?_, ?_, ?_, ?_⟩
  · rw [← e1]; exact hc _ _ g1
  · rw [← addr_anyE ad _ 1 (by omega), ← e2]; exact hc _ _ g2
  · rw [← addr_anyE ad _ 2 (by omega), ← e3]; exact hc _ _ g3
  · rw [← addr_anyE ad _ 3 (by omega), ← e4]; exact hc _ _ g4
  · rw [← addr_anyE ad _ 4 (by omega), ← e5]; exact hc _ _ g5
def Ens (T : TypeId) (w : World) (B0 B : Nat) (v : Value) (n : Nat) (rs : List Re) (l : List Ent) : Prop := w.ownsRow B T 5 v n (ens rs) ∧ AllE w B0 rs l
theorem Ens.nil_ (T : TypeId) (w : World) (B0 B : Nat) : Ens T w B0 B (.slice none 0 0) 0 [] [] := ⟨World.ownsRow_nil w B _ 5, AllE.nil_⟩
theorem Ens.below {B0 : Nat} (h : Ens T w B0 B v n rs l) (hb : Below w.heap.size w w') : Ens T w' B0 B v n rs l := ⟨own_below h.1 hb, h.2.mono fun _ _ _ hs => hs.below hb⟩
theorem Ens.cat {B0 : Nat} (h : Ens T w B0 B v n rs l) (hT : 56 ≠ T) (hB : B0 ≤ B) (h2 : AllE w B0 rs2 l2) (h1 : w1.ownsRow B T 5 v1 m (ens rs ++ ens rs2)) (hg : w.grownBy w1 v.ownBlock) : Ens T w1 B0 B v1 m (rs ++ rs2) (l ++ l2) :=
  ⟨by rw [ens_append]; exact h1, (h.2.append h2).mono fun _ _ _ hs => insFarB hs (farT_own h.1 hT) (fun r hr => Nat.le_trans hB (h.1.lt r hr).1) hg⟩
theorem Ens.len {B0 : Nat} (h : Ens T w B0 B v n rs l) : l.length = n := by
  have := h.1.1
  rw [ens_length] at this
  have := h.2.1
  omega
theorem Ens.told {B0 : Nat} (h : Ens T w B0 B v n rs l) (hB : B0 ≤ B) : ∃ A c, v = .slice A n c ∧ n ≤ c ∧ EnR T w B0 A n l := by
  obtain ⟨A, c, rfl, hc, _, hr⟩ := own_form h.1
  refine ⟨A, c, rfl, hc, rs, hr, h.2, fun ad hA hn => ?_⟩
  rcases h.1.2 with ⟨e, _⟩ | ⟨g, cap, cur, e, hB', hgg, _⟩
  · injection e with e1 e2 e3
    omega
  · injection e with e1 e2 e3
    rw [hA] at e1
    injection e1 with e1
    subst e1
    exact ⟨Nat.le_trans hB hB', cur, _, hgg⟩
theorem reads_ent (w : World) (nm : ByteArray) (A : Option Addr) (n c : Nat) (z : Bool) (lv cz : Int) (T' : TypeId) (g : Nat) (hg : g = w.heap.size) :
    Reads (w.alloc (.cells #[.string nm, .slice A n c, .bool z, .int .i64 lv, .int .i64 cz] T')) (w.heap.size + 1) 5 (some ⟨g, 0, none⟩) 1 (ens [(nm, .slice A n c, z, lv, cz)]) := by
  subst hg
  have h := Reads.newL w T' #[.string nm, .slice A n c, .bool z, .int .i64 lv, .int .i64 cz]
  exact ⟨rfl, fun _ => h.2 (by simp)⟩
end
end Go.Proofs.YtllogmokadcfmaaGreat.Trail
/-
  Slices of what is done to a trail, as they come in with a call. No condition.
-/
namespace Go.Proofs.YtllogmokadcfmaaGreat.Trail
open Go Go.RowKit Go.Lib Go.Proofs.YtllogmokadcfmaaGreat.Span Go.Proofs.YtllogmokadcfmaaGreat.Need Go.Proofs.YtllogmokadcfmaaGreat.Grow Go.Proofs.YtllogmokadcfmaaGreat.Term Go.Proofs.YtllogmokadcfmaaGreat.Clash
set_option linter.unusedVariables false
def DoOn (w : World) (A : Option Addr) (n : Nat) (l : List Dt) : Prop :=
  l.length = n ∧ ∀ (i : Nat) (q : Dt), l[i]? = some q → ∃ ad A' n' c', A = some ad ∧ ad.block < w.heap.size ∧ n' ≤ c' ∧ SpOn w A' n' q.term.set ∧ w.cell? (ad.add (i * 6)) = some (.int .i64 q.kind) ∧ w.cell? ⟨(ad.add (i * 6)).block, (ad.add (i * 6)).off + 1, none⟩ = some (.int .i64 q.ver) ∧ w.cell? ⟨(ad.add (i * 6)).block, (ad.add (i * 6)).off + 2, none⟩ = some (.int .i64 q.n) ∧
    w.cell? ⟨(ad.add (i * 6)).block, (ad.add (i * 6)).off + 3, none⟩ = some (.string q.term.name) ∧ w.cell? ⟨(ad.add (i * 6)).block, (ad.add (i * 6)).off + 4, none⟩ = some (.slice A' n' c') ∧ w.cell? ⟨(ad.add (i * 6)).block, (ad.add (i * 6)).off + 5, none⟩ = some (.bool q.term.none)
section
variable {w w' : World} {n k : Nat} {A : Option Addr} {l : List Dt}
theorem DoOn.at_ (h : DoOn w A n l) (hk : k < n) : ∃ ad q A' n' c', A = some ad ∧ ad.block < w.heap.size ∧ l[k]? = some q ∧ n' ≤ c' ∧ SpOn w A' n' q.term.set ∧ w.cell? (ad.add (k * 6)) = some (.int .i64 q.kind) ∧ w.cell? ⟨(ad.add (k * 6)).block, (ad.add (k * 6)).off + 1, none⟩ = some (.int .i64 q.ver) ∧ w.cell? ⟨(ad.add (k * 6)).block, (ad.add (k * 6)).off + 2, none⟩ = some (.int .i64 q.n) ∧
    w.cell? ⟨(ad.add (k * 6)).block, (ad.add (k * 6)).off + 3, none⟩ = some (.string q.term.name) ∧ w.cell? ⟨(ad.add (k * 6)).block, (ad.add (k * 6)).off + 4, none⟩ = some (.slice A' n' c') ∧ w.cell? ⟨(ad.add (k * 6)).block, (ad.add (k * 6)).off + 5, none⟩ = some (.bool q.term.none) := by
  have hl := h.1
  have hx : l[k]? = some (l[k]'(by omega)) := by simp
  obtain ⟨ad, A', n', c', h1, h2, h0, h3, h4, h5, h6, h7, h8, h9⟩ := h.2 k _ hx
  exact ⟨ad, _, A', n', c', h1, h2, hx, h0, h3, h4, h5, h6, h7, h8, h9⟩
theorem DoOn.on (h : DoOn w A n l) (hb : Below w.heap.size w w') : DoOn w' A n l := ⟨h.1, fun i q hq => by
  obtain ⟨ad, A', n', c', h1, h2, h0, h3, h4, h5, h6, h7, h8, h9⟩ := h.2 i q hq
  have hblk : ∀ j, (⟨(ad.add (i * 6)).block, j, none⟩ : Addr).block < w.heap.size := fun j => by simp only [block_of_add]; exact h2
  exact ⟨ad, A', n', c', h1, Nat.lt_of_lt_of_le h2 hb.size, h0, h3.on hb, (hb.cell (p := ad.add (i * 6)) (by rw [block_of_add]; exact h2)).trans h4, (hb.cell (hblk _)).trans h5, (hb.cell (hblk _)).trans h6, (hb.cell (hblk _)).trans h7, (hb.cell (hblk _)).trans h8, (hb.cell (hblk _)).trans h9⟩⟩
theorem DoOn.old (h : DoOn w A n l) (hb : Below w.heap.size w w') (hk : k < n) : ∃ ad q A' n' c', A = some ad ∧ ad.block < w.heap.size ∧ l[k]? = some q ∧ n' ≤ c' ∧ InS w' w.heap.size A' n' q.term.set ∧ w'.cell? (ad.add (k * 6)) = some (.int .i64 q.kind) ∧ w'.cell? ⟨(ad.add (k * 6)).block, (ad.add (k * 6)).off + 1, none⟩ = some (.int .i64 q.ver) ∧ w'.cell? ⟨(ad.add (k * 6)).block, (ad.add (k * 6)).off + 2, none⟩ = some (.int .i64 q.n) ∧
    w'.cell? ⟨(ad.add (k * 6)).block, (ad.add (k * 6)).off + 3, none⟩ = some (.string q.term.name) ∧ w'.cell? ⟨(ad.add (k * 6)).block, (ad.add (k * 6)).off + 4, none⟩ = some (.slice A' n' c') ∧ w'.cell? ⟨(ad.add (k * 6)).block, (ad.add (k * 6)).off + 5, none⟩ = some (.bool q.term.none) := by
  obtain ⟨ad, q, A', n', c', h1, h2, hx, h0, h3, h4, h5, h6, h7, h8, h9⟩ := h.at_ hk
  have hblk : ∀ j, (⟨(ad.add (k * 6)).block, j, none⟩ : Addr).block < w.heap.size := fun j => by simp only [block_of_add]; exact h2
  exact ⟨ad, q, A', n', c', h1, h2, hx, h0, (InS.of_in (B := w.heap.size) h3 (Nat.le_refl _)).below hb, (hb.cell (p := ad.add (k * 6)) (by rw [block_of_add]; exact h2)).trans h4, (hb.cell (hblk _)).trans h5, (hb.cell (hblk _)).trans h6, (hb.cell (hblk _)).trans h7, (hb.cell (hblk _)).trans h8, (hb.cell (hblk _)).trans h9⟩
theorem DoOn.len (h : DoOn w A n l) : l.length = n := h.1
end
abbrev Dq := Int × Int × Int × (ByteArray × List S × Bool)
def toDo (q : Dq) : Dt := ⟨q.1, q.2.1, q.2.2.1, toT q.2.2.2⟩
def lieDo : Lie Dq := liePair (lieInt .i64) (liePair (lieInt .i64) (liePair (lieInt .i64) (liePair lieStr (liePair (lieSlice (liePair (lieInt .i64) (lieInt .i64))) lieBool))))
theorem doOn_of {w : World} {A : Option Addr} {n : Nat} {l : List Dq} (h : RowOf lieDo w w.heap.size A n l) : DoOn w A n (l.map toDo) ∧ ∀ q ∈ l.map toDo, q.term.name.size ≤ maxLen ∧ q.term.set.length ≤ maxLen := by
  have key : ∀ (i : Nat) (q : Dq), l[i]? = some q → ∃ ad A' n' c', A = some ad ∧ ad.block < w.heap.size ∧ n' ≤ c' ∧ SpOn w A' n' (toDo q).term.set ∧ w.cell? (ad.add (i * 6)) = some (.int .i64 (toDo q).kind) ∧ w.cell? (ad.add (i * 6 + 1)) = some (.int .i64 (toDo q).ver) ∧ w.cell? (ad.add (i * 6 + 2)) = some (.int .i64 (toDo q).n) ∧ w.cell? (ad.add (i * 6 + 3)) = some (.string (toDo q).term.name) ∧ w.cell? (ad.add (i * 6 + 4)) = some (.slice A' n' c') ∧ w.cell? (ad.add (i * 6 + 5)) = some (.bool (toDo q).term.none) ∧ (toDo q).term.name.size ≤ maxLen ∧ (toDo q).term.set.length ≤ maxLen := by
    intro i q hq
    have hi : i < l.length := (List.getElem?_eq_some_iff.1 hq).1
    obtain ⟨ad, hA, hB, hc⟩ := h.2 (by have := h.1; omega)
    obtain ⟨cs, h1, c0, r0, e0, ⟨g0, _⟩, c1, r1, e1, ⟨g1, _⟩, c2, r2, e2, ⟨g2, _⟩, c3, r3, e3, ⟨g3, hs3⟩, c4, c5, e4, ⟨A', n', c', g4, hn, hm, _, hr⟩, g5⟩ := hc i q hq
    subst e0 e1 e2 e3 e4 g0 g1 g2 g3 g4 g5
    have x0 := h1 0 (by simp)
    have x1 := h1 1 (by simp)
    have x2 := h1 2 (by simp)
    have x3 := h1 3 (by simp)
    have x4 := h1 4 (by simp)
    have x5 := h1 5 (by simp)
    rw [add_of_add] at x0 x1 x2 x3 x4 x5
    refine ⟨ad, A', n', c', hA, hB, hn, spOn_of hr, by simpa [lieDo, liePair, lieInt, lieStr, lieSlice, lieBool, toDo, toT] using x0, by simpa [lieDo, liePair, lieInt, lieStr, lieSlice, lieBool, toDo, toT] using x1, by simpa [lieDo, liePair, lieInt, lieStr, lieSlice, lieBool, toDo, toT] using x2, by simpa [lieDo, liePair, lieInt, lieStr, lieSlice, lieBool, toDo, toT] using x3, by simpa [lieDo, liePair, lieInt, lieStr, lieSlice, lieBool, toDo, toT] using x4, by simpa [lieDo, liePair, lieInt, lieStr, lieSlice, lieBool, toDo, toT] using x5, hs3, ?_⟩
    have := (spOn_of hr).len
    simp only [toDo, toT]
    omega
  refine ⟨⟨by rw [List.length_map]; exact h.1, fun i q hq => ?_⟩, fun q hq => ?_⟩
  · rw [List.getElem?_map, Option.map_eq_some_iff] at hq
    obtain ⟨q', hq', rfl⟩ := hq
    obtain ⟨ad, A', n', c', h1, h2, h0, h3, h4, h5, h6, h7, h8, h9, _⟩ := key i q' hq'
    refine ⟨ad, A', n', c', h1, h2, h0, h3, h4, ?_, ?_, ?_, ?_, ?_⟩
    · rw [← addr_anyE ad _ 1 (by omega)]; exact h5
    · rw [← addr_anyE ad _ 2 (by omega)]; exact h6
    · rw [← addr_anyE ad _ 3 (by omega)]; exact h7
    · rw [← addr_anyE ad _ 4 (by omega)]; exact h8
    · rw [← addr_anyE ad _ 5 (by omega)]; exact h9
  · obtain ⟨q', hq', rfl⟩ := List.mem_map.1 hq
    obtain ⟨i, hi, rfl⟩ := List.getElem_of_mem hq'
    obtain ⟨_, _, _, _, _, _, _, _, _, _, _, _, _, _, h5, h6⟩ := key i l[i] (by simp)
    exact ⟨h5, h6⟩
end Go.Proofs.YtllogmokadcfmaaGreat.Trail
