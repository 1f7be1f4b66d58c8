/-
  Some texts of this claim, one behind the other: Base, SpanMath, Cells. What each proves, and its condition, stands at its head.
-/
import Derived.WalkKit
import Derived.ProofKit
import Derived.Below
import Derived.Lib.Hide
import Derived.Laws.OwnMore
import Derived.Deep.AppendLies
import Derived.Deep.Draws
import Derived.Laws.Rows
import Derived.Maps.AppendAt
import Derived.RegionTactic
import Derived.OwnWalk
import Derived.Laws.BytesString
import Derived.Laws.BytesArg
import Derived.Laws.IdiomStrings
import Derived.Lib.AppendStr
import Derived.Laws.CopyOwn
import Derived.Laws.MakeOwn
import Derived.BigQuiet
import Derived.Deep.DeepCutAuto
import Derived.Deep.RegionWith
import Derived.Deep.QuietTactic
/-
  Words for memory that all proofs of this seat use: a slice that reads as a list, bytes as cells, an append onto a row of the call's own. No condition. Of no program: plain lemmas over the library.
-/
namespace Go.Proofs.YtllogmokadcfmaaGreat
open Go.RowKit
theorem block_of_add (a : Addr) (n : Nat) : (a.add n).block = a.block := by unfold Addr.add; split <;> rfl
theorem add_of_add (a : Addr) (i j : Nat) : (a.add i).add j = a.add (i + j) := by
  unfold Addr.add
  by_cases hi : i = 0 <;> by_cases hj : j = 0 <;> simp [hi, hj, Nat.add_assoc]
def Reads (w : World) (B size : Nat) (A : Option Addr) (n : Nat) (xs : List Value) : Prop :=
  xs.length = n * size ∧ (0 < n → ∃ ad, A = some ad ∧ ad.block < B ∧ ∀ j u, xs[j]? = some u → w.cell? (ad.add j) = some u)
section
variable {w w' : World} {B B' size n : Nat} {A : Option Addr} {xs : List Value}
theorem Reads.none_ : Reads w B size A 0 [] := ⟨by simp, fun h => absurd h (by omega)⟩
theorem Reads.at_ {k : Nat} (h : Reads w B 1 A n xs) (hk : k < n) : ∃ ad u, A = some ad ∧ ad.block < B ∧ xs[k]? = some u ∧ w.cell? (ad.add k) = some u := by
  obtain ⟨ad, e, hb, hc⟩ := h.2 (by omega)
  have hl : k < xs.length := by have := h.1; omega
  exact ⟨ad, xs[k], e, hb, List.getElem?_eq_getElem hl, hc k _ (List.getElem?_eq_getElem hl)⟩
theorem Reads.keep (h : Reads w B size A n xs) (hk : ∀ p : Addr, p.block < B → w'.cell? p = w.cell? p) : Reads w' B size A n xs :=
  ⟨h.1, fun hn => by
    obtain ⟨ad, e, hb, hc⟩ := h.2 hn
    exact ⟨ad, e, hb, fun j u hu => (hk _ (by rw [block_of_add]; exact hb)).trans (hc j u hu)⟩⟩
theorem Reads.more (h : Reads w B size A n xs) (hB : B ≤ B') : Reads w B' size A n xs :=
  ⟨h.1, fun hn => by
    obtain ⟨ad, e, hb, hc⟩ := h.2 hn
    exact ⟨ad, e, by omega, hc⟩⟩
theorem Reads.below (h : Reads w B size A n xs) (hb : Below B w w') : Reads w' B size A n xs := h.keep fun _ hp => hb.cell hp
theorem Reads.setCell (h : Reads w B size A n xs) {p : Addr} (hB : B ≤ p.block) (u : Value) : Reads (w.setCell p u) B size A n xs :=
  h.keep fun q hq => World.cell?_setCell_other w p q u (fun e => by subst e; omega)
theorem Reads.take (h : Reads w B 1 A n xs) {k : Nat} (hk : k ≤ n) : Reads w B 1 A k (xs.take k) := by
  refine ⟨by rw [List.length_take, h.1]; omega, fun hn => ?_⟩
  obtain ⟨ad, rfl, hb, hcell⟩ := h.2 (by omega)
  refine ⟨ad, rfl, hb, fun j u hu => hcell j u ?_⟩
  rw [List.getElem?_take] at hu
  split at hu
  · exact hu
  · cases hu
theorem Reads.of_own {base : Nat} {e : TypeId} {c : Nat} (h : w.ownsRow base e size (.slice A n c) n xs) : Reads w w.heap.size size A n xs := by
  refine ⟨h.1, fun hn => ?_⟩
  obtain ⟨g, cap, hv, _, hlt⟩ := h.form hn
  have hA : A = some ⟨g, 0, none⟩ := by injection hv
  subst hA
  exact ⟨_, rfl, hlt, h.cells (g := g) rfl⟩
end
theorem Reads.new1 (w : World) (e : TypeId) (v : Value) : Reads (w.alloc (.cells #[v] e)) (w.heap.size + 1) 1 (some ⟨w.heap.size, 0, none⟩) 1 [v] := by
  refine ⟨rfl, fun _ => ⟨_, rfl, by simp, fun j u hu => ?_⟩⟩
  have h0 : j = 0 := by
    rcases j with _ | j
    · rfl
    · simp at hu
  subst h0
  have : u = v := by simpa using hu.symm
  subst this
  exact (World.cell?_alloc_at _ _ _ _ rfl).trans rfl
theorem own_form {w : World} {base : Nat} {e : TypeId} {size n : Nat} {v : Value} {xs : List Value} (h : w.ownsRow base e size v n xs) : ∃ A c, v = .slice A n c ∧ n ≤ c ∧ c ≤ maxLen ∧ Reads w w.heap.size size A n xs := by
  have h0 := h
  rcases h.2 with ⟨rfl, rfl⟩ | ⟨g, cap, cur, rfl, hb, hg, hc, hm, _⟩
  · exact ⟨none, 0, rfl, Nat.le_refl _, by simp [maxLen], h.1, fun hn => absurd hn (by omega)⟩
  · exact ⟨_, cap, rfl, hc, hm, .of_own h0⟩
theorem own_below {w w' : World} {base : Nat} {e : TypeId} {size n : Nat} {v : Value} {xs : List Value} (h : w.ownsRow base e size v n xs) (hb : Below w.heap.size w w') : w'.ownsRow base e size v n xs := by
  refine ⟨h.1, ?_⟩
  rcases h.2 with hn | ⟨g, cap, cur, hv, hg, hh, r⟩
  · exact .inl hn
  · exact .inr ⟨g, cap, cur, hv, hg, (hb.block g (Array.getElem?_eq_some_iff.1 hh).1).trans hh, r⟩
theorem own_less {w : World} {base base' : Nat} {e : TypeId} {size n : Nat} {v : Value} {xs : List Value} (h : w.ownsRow base e size v n xs) (hb : base' ≤ base) : w.ownsRow base' e size v n xs := by
  refine ⟨h.1, ?_⟩
  rcases h.2 with hn | ⟨g, cap, cur, hv, hg, r⟩
  · exact .inl hn
  · exact .inr ⟨g, cap, cur, hv, by omega, r⟩
section
variable {P : Program} (w : World)
end
section
variable {P : Program} (w : World)
theorem run_append_of_nil (base : Nat) (t ty e : TypeId) (i : TypeInfo) (size : Nat) (ht : P.underlying t = some (.slice e)) (hi : P.info? e = some i)
    (v : Value) (n : Nat) (xs : List Value) (hown : w.ownsRow base e size v n xs) (c : Nat) : (Builtin.append_ #[t, t] ty #[v, .slice none 0 c]).run P w = .ok v w := by
  rcases hown.2 with ⟨rfl, rfl⟩ | ⟨g, cap, cur, rfl, _, _, hnc, _⟩
  · simp [Builtin.append_, run_underlying ht, sizeOf, typeInfo, hi, Builtin.lenOf, Builtin.firstCells]
  · simp [Builtin.append_, run_underlying ht, sizeOf, typeInfo, hi, Builtin.lenOf, Builtin.firstCells, hnc, storeCells]
theorem run_append_any (base : Nat) (t ty e : TypeId) (i : TypeInfo) (z : Value) (size bytes : Nat) (ht : P.underlying t = some (.slice e)) (hi : P.info? e = some i) (hz : i.zero = some z)
    (hsize : i.size = size) (hby : i.bytes = bytes) (hzs : z.cells.size = size) (hsz : 0 < size)
    (v : Value) (n : Nat) (xs : List Value) (hown : w.ownsRow base e size v n xs)
    (B : Nat) (A : Option Addr) (m c : Nat) (news : List Value) (hr : Reads w B size A m news) (h1 : ∀ u ∈ news, u.oneCell' = true)
    (h63 : n + m ≤ maxLen) (hbytes : (n + m) * bytes ≤ 140737488355328) (hbase : base ≤ w.heap.size) :
    ∃ v' w', (Builtin.append_ #[t, t] ty #[v, .slice A m c]).run P w = .ok v' w' ∧ w'.ownsRow base e size v' (n + m) (xs ++ news) ∧ w.grownBy w' v.ownBlock ∧
      (v'.ownBlock = v.ownBlock ∨ v'.ownBlock = some w.heap.size) := by
  rcases A with _ | ad
  · have hm : m = 0 := by
      rcases Nat.eq_zero_or_pos m with h0 | h0
      · exact h0
      · obtain ⟨ad, h, _⟩ := hr.2 h0
        cases h
    subst hm
    have hn : news = [] := List.eq_nil_of_length_eq_zero (by simpa using hr.1)
    subst hn
    exact ⟨v, w, run_append_of_nil w base t ty e i size ht hi v n xs hown c, by simpa using hown, World.grownBy.refl w _, .inl rfl⟩
  · have hcells : ∀ j u, news[j]? = some u → w.cell? (ad.add j) = some u := by
      intro j u hu
      rcases Nat.eq_zero_or_pos m with h0 | h0
      · subst h0
        have hn : news = [] := List.eq_nil_of_length_eq_zero (by simpa using hr.1)
        subst hn
        simp at hu
      · obtain ⟨ad', h, _, hc⟩ := hr.2 h0
        injection h with h
        subst h
        exact hc j u hu
    obtain ⟨v', w', hrun, h2, h3, _, h5⟩ := run_append_own_at (P := P) w base t ty e i z size bytes ht hi hz hsize hby hzs hsz v n xs hown ad m c news hr.1 hcells h1 h63 hbytes hbase
    exact ⟨v', w', hrun, h2, h3, h5⟩
theorem wp_append_any {o : Oper} {a : Act} {K : Act → World → Prop} {Q : Exit → Act → World → Prop} (s x : Operand) (t : TypeId)
    (ho : o.op = .call { callee := .builtin .append, args := #[s, x], argTypes := #[t, t] })
    (base : Nat) (e : TypeId) (i : TypeInfo) (z : Value) (size bytes : Nat) (ht : P.underlying t = some (.slice e)) (hi : P.info? e = some i) (hz : i.zero = some z)
    (hsize : i.size = size) (hby : i.bytes = bytes) (hzs : z.cells.size = size) (hsz : 0 < size)
    (v : Value) (n : Nat) (xs : List Value) (hs : a.eval s = v) (hown : w.ownsRow base e size v n xs)
    (B : Nat) (A : Option Addr) (m c : Nat) (news : List Value) (hx : a.eval x = .slice A m c) (hr : Reads w B size A m news) (h1 : ∀ u ∈ news, u.oneCell' = true)
    (h63 : n + m ≤ maxLen) (hbytes : (n + m) * bytes ≤ 140737488355328) (hbase : base ≤ w.heap.size)
    (h : ∀ v' w', w'.ownsRow base e size v' (n + m) (xs ++ news) → w.grownBy w' v.ownBlock → (v'.ownBlock = v.ownBlock ∨ v'.ownBlock = some w.heap.size) → K (a.put o.dst v') w') : o.wp P a w K Q := by
  obtain ⟨v', w', hrun, h2, h3, h4⟩ := run_append_any (P := P) w base t o.type e i z size bytes ht hi hz hsize hby hzs hsz v n xs hown B A m c news hr h1 h63 hbytes hbase
  unfold Oper.wp execOp
  simp only [ho, resolve, invoke, builtin, Sem.run_bind, Sem.run_pure, Result.andThen_ok, List.map_toArray, List.map_cons, List.map_nil, hs, hx, hrun]
  exact h v' w' h2 h3 h4
theorem wpList_append_any {ops : Array Oper} {rest : List Oper} {o : Oper} {a : Act} {Q : Exit → Act → World → Prop} (hgd : o.guard = none) (s x : Operand) (t : TypeId)
    (ho : o.op = .call { callee := .builtin .append, args := #[s, x], argTypes := #[t, t] })
    (base : Nat) (e : TypeId) (i : TypeInfo) (z : Value) (size bytes : Nat) (ht : P.underlying t = some (.slice e)) (hi : P.info? e = some i) (hz : i.zero = some z)
    (hsize : i.size = size) (hby : i.bytes = bytes) (hzs : z.cells.size = size) (hsz : 0 < size)
    (v : Value) (n : Nat) (xs : List Value) (hs : a.eval s = v) (hown : w.ownsRow base e size v n xs)
    (B : Nat) (A : Option Addr) (m c : Nat) (news : List Value) (hx : a.eval x = .slice A m c) (hr : Reads w B size A m news) (h1 : ∀ u ∈ news, u.oneCell' = true)
    (h63 : n + m ≤ maxLen) (hbytes : (n + m) * bytes ≤ 140737488355328) (hbase : base ≤ w.heap.size)
    (h : ∀ v' w', w'.ownsRow base e size v' (n + m) (xs ++ news) → w.grownBy w' v.ownBlock → (v'.ownBlock = v.ownBlock ∨ v'.ownBlock = some w.heap.size) → wpList P ops Q rest (a.put o.dst v') w') : wpList P ops Q (o :: rest) a w :=
  wpList_plain hgd fun _ hK => wp_append_any w s x t ho base e i z size bytes ht hi hz hsize hby hzs hsz v n xs hs hown B A m c news hx hr h1 h63 hbytes hbase fun v' w' h2 h3 h4 => hK _ _ (h v' w' h2 h3 h4)
end
def Blk (w : World) (g : Nat) (t : TypeId) (cs : Array Value) : Prop := w.heap[g]? = some (.cells cs t (0, 0))
section
variable {w w' : World} {g : Nat} {t : TypeId} {cs : Array Value}
theorem Blk.lt (h : Blk w g t cs) : g < w.heap.size := by
  rcases Nat.lt_or_ge g w.heap.size with hlt | hge
  · exact hlt
  · unfold Blk at h; rw [Array.getElem?_eq_none hge] at h; cases h
theorem Blk.cell (h : Blk w g t cs) (i : Nat) : w.cell? ⟨g, i, none⟩ = cs[i]? := cell_of_row w g i cs t (0, 0) h
theorem Blk.frozen (h : Blk w g t cs) (i : Nat) : w.frozen? ⟨g, i, none⟩ = false := by
  unfold Blk at h
  simp [World.frozen?, h]
theorem Blk.new (w : World) (t : TypeId) (cs : Array Value) : Blk (w.alloc (.cells cs t)) w.heap.size t cs := heap_alloc_new w _
theorem Blk.drew (h : Blk w g t cs) : Blk w.drew g t cs := h
theorem Blk.drewN (h : Blk w g t cs) (n : Nat) : Blk (w.drewN n) g t cs := h
theorem Blk.alloc (h : Blk w g t cs) (o : Obj) : Blk (w.alloc o) g t cs := (Below.heap_alloc w o g h.lt).trans h
theorem Blk.set_ (h : Blk w g t cs) (i : Nat) (u : Value) : Blk (w.setCell ⟨g, i, none⟩ u) g t (cs.setIfInBounds i u) := by
  unfold Blk at h ⊢
  simp [World.setCell, Array.getElem?_modify, h]
theorem Blk.below {B : Nat} (h : Blk w g t cs) (hb : Below B w w') (hg : g < B) : Blk w' g t cs := (hb.block g hg).trans h
theorem Blk.grown {row : Option Nat} (h : Blk w g t cs) (hb : w.grownBy w' row) (hg : some g ≠ row) : Blk w' g t cs := (hb.block g h.lt hg).trans h
end
theorem below_drewN {B : Nat} {a w : World} (h : Below B a w) (n : Nat) : Below B a (w.drewN n) := ⟨h.os, h.tape, h.output, h.size, h.block⟩
theorem only_alloc {a w : World} {row : Option Nat} (h : a.grownBy w row) (o : Obj) : a.grownBy (w.alloc o) row :=
  ⟨h.os, h.tape, h.output, Nat.le_trans h.size (by simp), fun i hi hne => (Below.heap_alloc w o i (Nat.lt_of_lt_of_le hi h.size)).trans (h.block i hi hne)⟩
theorem only_setCell {a w : World} {g : Nat} (h : a.grownBy w (some g)) {p : Addr} (hp : p.block = g ∨ a.heap.size ≤ p.block) (u : Value) : a.grownBy (w.setCell p u) (some g) :=
  ⟨h.os, h.tape, h.output, by simpa [World.setCell] using h.size, fun i hi hne => (Below.heap_setCell w p u i (by
    rintro rfl
    rcases hp with hp | hp
    · exact hne (by rw [hp])
    · omega)).trans (h.block i hi hne)⟩
theorem only_of_below {a w : World} (h : Below a.heap.size a w) (row : Option Nat) : a.grownBy w row := ⟨h.os, h.tape, h.output, h.size, fun i hi _ => h.block i hi⟩
theorem ret_int {k : IntKind} {a b : Int} (h : a = b) : Ending.returned (.int k a) = .returned (.int k b) := by rw [h]
theorem ret_i {k : IntKind} {a b : Int} (h : a = b) : Value.int k a = .int k b := by rw [h]
theorem hide {p : Prop} (h : p) : Hid p := h
end Go.Proofs.YtllogmokadcfmaaGreat
/-
  Sets of places as lists of spans: what a list has, which lists are sets, that a set is told by what it has, edges, cuts, counts. No condition. Of no program.
-/
namespace Go.Proofs.YtllogmokadcfmaaGreat.Span
set_option linter.unusedVariables false
abbrev S := Int × Int
def has (l : List S) (p : Int) : Bool := l.any fun s => decide (s.1 ≤ p) && decide (p < s.2)
def isSet : Int → List S → Bool
  | _, [] => true
  | e, s :: t => decide (e < s.1) && decide (s.1 < s.2) && decide (s.2 ≤ 1000000000) && isSet s.2 t
def endOf : Int → List S → Int
  | e, [] => e
  | _, s :: t => endOf s.2 t
theorem has_nil (p : Int) : has [] p = false := rfl
theorem has_cons (s : S) (t : List S) (p : Int) : has (s :: t) p = (decide (s.1 ≤ p) && decide (p < s.2) || has t p) := by simp [has]
theorem has_append (a b : List S) (p : Int) : has (a ++ b) p = (has a p || has b p) := by simp [has]
theorem has_one (s : S) (p : Int) : has [s] p = (decide (s.1 ≤ p) && decide (p < s.2)) := by simp [has]
theorem has_iff (l : List S) (p : Int) : has l p = true ↔ ∃ s ∈ l, s.1 ≤ p ∧ p < s.2 := by simp [has]
theorem has_of_perm {a b : List S} (h : ∀ s, s ∈ a ↔ s ∈ b) (p : Int) : has a p = has b p := by
  rw [Bool.eq_iff_iff, has_iff, has_iff]; simp [h]
theorem isSet_cons (e : Int) (s : S) (t : List S) : isSet e (s :: t) = true ↔ e < s.1 ∧ s.1 < s.2 ∧ s.2 ≤ 1000000000 ∧ isSet s.2 t = true := by
  simp [isSet, and_assoc]
theorem isSet_append (a b : List S) : ∀ e, isSet e (a ++ b) = (isSet e a && isSet (endOf e a) b) := by
  induction a with
  | nil => intro e; simp [isSet, endOf]
  | cons s t ih => intro e; simp [isSet, endOf, ih, Bool.and_assoc]
theorem endOf_append (a b : List S) : ∀ e, endOf e (a ++ b) = endOf (endOf e a) b := by
  induction a with
  | nil => intro e; rfl
  | cons s t ih => intro e; simp [endOf, ih]
theorem endOf_snoc (a : List S) (s : S) (e : Int) : endOf e (a ++ [s]) = s.2 := by rw [endOf_append]; rfl
theorem isSet_snoc (a : List S) (s : S) (e : Int) : isSet e (a ++ [s]) = true ↔ isSet e a = true ∧ endOf e a < s.1 ∧ s.1 < s.2 ∧ s.2 ≤ 1000000000 := by
  rw [isSet_append, Bool.and_eq_true, isSet_cons]; simp [isSet]
theorem end_ge {l : List S} : ∀ {e : Int}, isSet e l = true → e ≤ endOf e l := by
  induction l with
  | nil => intro e h; simp [endOf]
  | cons s t ih => intro e h; rw [isSet_cons] at h; have := ih h.2.2.2; simp only [endOf]; omega
theorem end_le {l : List S} : ∀ {e : Int}, isSet e l = true → e ≤ 1000000000 → endOf e l ≤ 1000000000 := by
  induction l with
  | nil => intro e h he; simpa [endOf] using he
  | cons s t ih => intro e h he; rw [isSet_cons] at h; exact ih h.2.2.2 h.2.2.1
theorem mem_range {l : List S} : ∀ {e : Int}, isSet e l = true → ∀ s ∈ l, e < s.1 ∧ s.1 < s.2 ∧ s.2 ≤ 1000000000 ∧ s.2 ≤ endOf e l := by
  induction l with
  | nil => intro e h s hs; cases hs
  | cons x t ih =>
    intro e h s hs
    rw [isSet_cons] at h
    have hg := end_ge h.2.2.2
    rcases List.mem_cons.1 hs with rfl | hs
    · exact ⟨h.1, h.2.1, h.2.2.1, hg⟩
    · have := ih h.2.2.2 s hs
      exact ⟨by omega, this.2.1, this.2.2.1, this.2.2.2⟩
theorem len_end {l : List S} : ∀ {e : Int}, isSet e l = true → (l.length : Int) ≤ endOf e l - e := by
  induction l with
  | nil => intro e h; simp [endOf]
  | cons s t ih => intro e h; rw [isSet_cons] at h; have := ih h.2.2.2; simp only [endOf, List.length_cons]; omega
theorem len_le {l : List S} (h : isSet (-1) l = true) : l.length ≤ 1000000001 := by
  have h1 := len_end h
  have h2 := end_le h (by omega)
  omega
theorem has_range {l : List S} {e p : Int} (h : isSet e l = true) (hp : has l p = true) : e < p ∧ p < 1000000000 ∧ p < endOf e l := by
  obtain ⟨s, hs, h1, h2⟩ := (has_iff l p).1 hp
  have := mem_range h s hs
  exact ⟨by omega, by omega, by omega⟩
theorem has_low {l : List S} {e p : Int} (h : isSet e l = true) (hp : p ≤ e) : has l p = false := by
  cases hh : has l p with
  | false => rfl
  | true => have := has_range h hh; omega
theorem unique (a : List S) : ∀ (b : List S) (e : Int), isSet e a = true → isSet e b = true → (∀ p, e < p → p < 1000000000 → has a p = has b p) → a = b := by
  induction a with
  | nil =>
    intro b e _ hb h
    cases b with
    | nil => rfl
    | cons s t =>
      rw [isSet_cons] at hb
      have := h s.1 hb.1 (by omega)
      rw [has_nil, has_cons] at this
      simp [hb.2.1] at this
  | cons s t ih =>
    intro b e ha hb h
    rw [isSet_cons] at ha
    cases b with
    | nil =>
      have := h s.1 ha.1 (by omega)
      rw [has_nil, has_cons] at this
      simp [ha.2.1] at this
    | cons s' t' =>
      rw [isSet_cons] at hb
      have hst : ∀ p, p ≤ s.2 → has t p = false := fun p hp => has_low ha.2.2.2 hp
      have hst' : ∀ p, p ≤ s'.2 → has t' p = false := fun p hp => has_low hb.2.2.2 hp
      have h1 : s.1 = s'.1 := by
        have e1 := h s.1 ha.1 (by omega)
        have e2 := h s'.1 hb.1 (by omega)
        rw [has_cons, has_cons] at e1 e2
        by_cases c1 : s.1 < s'.1
        · rw [hst' s.1 (by omega)] at e1; simp [ha.2.1] at e1; omega
        · by_cases c2 : s'.1 < s.1
          · rw [hst s'.1 (by omega)] at e2; simp [hb.2.1] at e2; omega
          · omega
      have h2 : s.2 = s'.2 := by
        by_cases c1 : s.2 < s'.2
        · have e1 := h s.2 (by omega) (by omega)
          rw [has_cons, has_cons, hst s.2 (by omega)] at e1
          have x1 : s'.1 ≤ s.2 := by omega
          simp [c1, x1] at e1
        · by_cases c2 : s'.2 < s.2
          · have e1 := h s'.2 (by omega) (by omega)
            rw [has_cons, has_cons, hst' s'.2 (by omega)] at e1
            have x1 : s.1 ≤ s'.2 := by omega
            simp [c2, x1] at e1
          · omega
      have hs : s = s' := Prod.ext h1 h2
      subst hs
      congr 1
      refine ih t' s.2 ha.2.2.2 hb.2.2.2 fun p hp hq => ?_
      have := h p (by omega) hq
      rw [has_cons, has_cons] at this
      have x : ¬ p < s.2 := by omega
      simpa [x] using this
def put (l : List S) (s : S) : List S :=
  match l.getLast? with
  | none => [s]
  | some t => if t.2 < s.1 then l ++ [s] else l.dropLast ++ [(t.1, max t.2 s.2)]
theorem put_nil (s : S) : put [] s = [s] := rfl
theorem put_snoc (a : List S) (t s : S) : put (a ++ [t]) s = if t.2 < s.1 then a ++ [t] ++ [s] else a ++ [(t.1, max t.2 s.2)] := by
  simp [put]
theorem put_ok {l : List S} {s : S} (h : isSet (-1) l = true) (hl : ∀ x ∈ l, x.1 ≤ s.1) (h0 : 0 ≤ s.1) (h1 : s.1 < s.2) (h2 : s.2 ≤ 1000000000) :
    isSet (-1) (put l s) = true ∧ (∀ p, has (put l s) p = (has l p || (decide (s.1 ≤ p) && decide (p < s.2)))) ∧ ∀ x ∈ put l s, x.1 ≤ s.1 := by
  rcases List.eq_nil_or_concat l with rfl | ⟨a, t, rfl⟩
  · rw [put_nil]
    refine ⟨by rw [isSet_cons]; exact ⟨by omega, h1, h2, rfl⟩, fun p => by rw [has_one, has_nil, Bool.false_or], fun x hx => ?_⟩
    rw [List.mem_singleton.1 hx]; omega
  · rw [List.concat_eq_append] at *
    rw [put_snoc]
    have ht : t.1 ≤ s.1 := hl t (by simp)
    rw [isSet_snoc] at h
    split
    · rename_i c
      refine ⟨?_, fun p => by rw [has_append, has_one], fun x hx => ?_⟩
      · rw [isSet_snoc, isSet_snoc, endOf_snoc]; exact ⟨h, c, h1, h2⟩
      · rcases List.mem_append.1 hx with hx | hx
        · exact hl x hx
        · rw [List.mem_singleton.1 hx]; omega
    · rename_i c
      refine ⟨?_, fun p => ?_, fun x hx => ?_⟩
      · rw [isSet_snoc]; exact ⟨h.1, h.2.1, by simp only []; omega, by simp only []; omega⟩
      · rw [has_append, has_append, has_one, has_one, Bool.or_assoc]
        congr 1
        rw [Bool.eq_iff_iff]; simp only [Bool.or_eq_true, Bool.and_eq_true, decide_eq_true_eq]; omega
      · rcases List.mem_append.1 hx with hx | hx
        · exact hl x (by simp [hx])
        · rw [List.mem_singleton.1 hx]; exact ht
theorem put_length (l : List S) (s : S) : (put l s).length ≤ l.length + 1 ∧ l.length ≤ (put l s).length := by
  rcases List.eq_nil_or_concat l with rfl | ⟨a, t, rfl⟩
  · simp [put_nil]
  · rw [List.concat_eq_append, put_snoc]; split <;> simp
theorem good_to (P : Int → Bool) (n : Nat) : n ≤ 1000000000 → ∃ L, isSet (-1) L = true ∧ (∀ p, has L p = (decide (0 ≤ p) && decide (p < (n : Int)) && P p)) := by
  induction n with
  | zero => intro _; exact ⟨[], rfl, fun p => by rw [has_nil]; symm; simp; omega⟩
  | succ n ih =>
    intro hn
    obtain ⟨L, h1, h2⟩ := ih (by omega)
    cases hP : P (n : Int) with
    | false =>
      refine ⟨L, h1, fun p => ?_⟩
      rw [h2 p]
      by_cases hp : p = (n : Int)
      · subst hp; simp [hP]
      · have : decide (p < ((n + 1 : Nat) : Int)) = decide (p < (n : Int)) := by
          rw [decide_eq_decide]; omega
        rw [this]
    | true =>
      have hl : ∀ x ∈ L, x.1 ≤ (n : Int) := fun x hx => by
        have hr := mem_range h1 x hx
        have : has L x.1 = true := (has_iff _ _).2 ⟨x, hx, by omega, by omega⟩
        rw [h2] at this
        simp at this
        omega
      obtain ⟨g1, g2, _⟩ := put_ok (s := ((n : Int), (n : Int) + 1)) h1 hl (by simp only []; omega) (by simp only []; omega) (by simp only []; omega)
      refine ⟨_, g1, fun p => ?_⟩
      rw [g2, h2]
      by_cases hp : p = (n : Int)
      · subst hp; simp [hP]
      · simp only []
        have e1 : (decide ((n : Int) ≤ p) && decide (p < (n : Int) + 1)) = false := by simp; omega
        have : decide (p < ((n + 1 : Nat) : Int)) = decide (p < (n : Int)) := by
          rw [decide_eq_decide]; omega
        rw [e1, this, Bool.or_false]
theorem good (P : Int → Bool) : ∃ L, isSet (-1) L = true ∧ (∀ p, has L p = (decide (0 ≤ p) && decide (p < 1000000000) && P p)) :=
  good_to P 1000000000 (Nat.le_refl _)
noncomputable def nf (P : Int → Bool) : List S := Classical.choose (good P)
theorem nf_set (P : Int → Bool) : isSet (-1) (nf P) = true := (Classical.choose_spec (good P)).1
theorem nf_has (P : Int → Bool) (p : Int) : has (nf P) p = (decide (0 ≤ p) && decide (p < 1000000000) && P p) := (Classical.choose_spec (good P)).2 p
theorem nf_in (P : Int → Bool) {p : Int} (h0 : 0 ≤ p) (h1 : p < 1000000000) : has (nf P) p = P p := by rw [nf_has]; simp [h0, h1]
theorem is_nf {L : List S} {P : Int → Bool} (h : isSet (-1) L = true) (hp : ∀ p, 0 ≤ p → p < 1000000000 → has L p = P p) : L = nf P :=
  unique _ _ _ h (nf_set P) fun p h0 h1 => by rw [hp p (by omega) h1, nf_in P (by omega) h1]
theorem nf_congr {P Q : Int → Bool} (h : ∀ p, 0 ≤ p → p < 1000000000 → P p = Q p) : nf P = nf Q :=
  is_nf (nf_set P) fun p h0 h1 => by rw [nf_in P h0 h1]; exact h p h0 h1
theorem nf_nil {P : Int → Bool} : nf P = [] ↔ ∀ p, 0 ≤ p → p < 1000000000 → P p = false :=
  ⟨fun h p h0 h1 => by rw [← nf_in P h0 h1, h]; rfl, fun h => (is_nf (L := []) rfl fun p h0 h1 => by rw [h p h0 h1]; rfl).symm⟩
noncomputable def nfTo (P : Int → Bool) (n : Int) : List S := nf fun p => decide (p < n) && P p
theorem nfTo_zero (P : Int → Bool) : nfTo P 0 = [] := nf_nil.2 fun p h0 _ => by
  have : ¬ p < 0 := by omega
  simp [this]
theorem nfTo_top (P : Int → Bool) {n : Int} (hn : 1000000000 ≤ n) : nfTo P n = nf P := nf_congr fun p _ h1 => by
  have : p < n := by omega
  simp [this]
theorem nfTo_low {P : Int → Bool} {n : Int} : ∀ x ∈ nfTo P n, x.1 < n ∧ x.2 ≤ n ∧ 0 ≤ x.1 ∧ x.1 < x.2 ∧ x.2 ≤ 1000000000 := fun x hx => by
  have hr := mem_range (nf_set _) x hx
  have h1 : has (nfTo P n) x.1 = true := (has_iff _ _).2 ⟨x, hx, by omega, by omega⟩
  have h2 : has (nfTo P n) (x.2 - 1) = true := (has_iff _ _).2 ⟨x, hx, by omega, by omega⟩
  unfold nfTo at h1 h2
  rw [nf_has] at h1 h2
  simp at h1 h2
  omega
theorem nfTo_skip {P : Int → Bool} {lo hi : Int} (h : ∀ p, lo ≤ p → p < hi → P p = false) (hl : lo ≤ hi) : nfTo P hi = nfTo P lo := nf_congr fun p _ _ => by
  by_cases c : p < lo
  · have : p < hi := by omega
    simp [c, this]
  · by_cases d : p < hi
    · rw [h p (by omega) d]; simp
    · simp [c, d]
theorem nfTo_take {P : Int → Bool} {lo hi : Int} (h : ∀ p, lo ≤ p → p < hi → P p = true) (h0 : 0 ≤ lo) (hl : lo < hi) (ht : hi ≤ 1000000000) : nfTo P hi = put (nfTo P lo) (lo, hi) := by
  obtain ⟨g1, g2, _⟩ := put_ok (l := nfTo P lo) (s := (lo, hi)) (nf_set _) (fun x hx => by have := nfTo_low x hx; simp only []; omega) h0 hl ht
  refine (is_nf g1 fun p p0 p1 => ?_).symm
  rw [g2]
  unfold nfTo
  rw [nf_in _ p0 p1]
  simp only []
  by_cases c : p < lo
  · have x1 : p < hi := by omega
    have x2 : ¬ lo ≤ p := by omega
    simp [c, x1, x2]
  · by_cases d : p < hi
    · have x2 : lo ≤ p := by omega
      rw [h p x2 d]; simp [d, x2]
    · simp [c, d]
def edge (l : List S) (n : Nat) : Int := if n = 2 * l.length then 1000000000 else if n % 2 = 0 then (l[n / 2]?.getD (0, 0)).1 else (l[n / 2]?.getD (0, 0)).2
theorem edge_zero (s : S) (t : List S) : edge (s :: t) 0 = s.1 := by simp [edge]
theorem edge_one (s : S) (t : List S) : edge (s :: t) 1 = s.2 := by
  have h : ¬ (1 = 2 * (t.length + 1)) := by omega
  simp [edge, h]
theorem edge_two (s : S) (t : List S) (n : Nat) : edge (s :: t) (n + 2) = edge t n := by
  unfold edge
  have h1 : (n + 2 = 2 * (s :: t).length) ↔ n = 2 * t.length := by simp; omega
  have h2 : (n + 2) % 2 = n % 2 := by omega
  have h3 : (n + 2) / 2 = n / 2 + 1 := by omega
  simp only [h1, h2, h3, List.getElem?_cons_succ]
theorem edge_top (l : List S) : edge l (2 * l.length) = 1000000000 := by simp [edge]
theorem has_edges (a : List S) : ∀ (e : Int) (k : Nat) (q : Int), isSet e a = true → k ≤ 2 * a.length → (∀ m, m < k → edge a m ≤ q) → q < edge a k → has a q = decide (k % 2 = 1) := by
  induction a with
  | nil =>
    intro e k q _ hk _ _
    have : k = 0 := by simpa using hk
    subst this; rfl
  | cons s t ih =>
    intro e k q h hk hlo hhi
    rw [isSet_cons] at h
    rw [has_cons]
    match k, hk, hlo, hhi with
    | 0, _, _, hhi =>
      rw [edge_zero] at hhi
      rw [has_low h.2.2.2 (by omega)]
      have : ¬ s.1 ≤ q := by omega
      simp [this]
    | 1, _, hlo, hhi =>
      have h0 := hlo 0 (by omega)
      rw [edge_zero] at h0
      rw [edge_one] at hhi
      simp [h0, hhi]
    | n + 2, hk, hlo, hhi =>
      have h1 := hlo 1 (by omega)
      rw [edge_one] at h1
      rw [edge_two] at hhi
      have : ¬ q < s.2 := by omega
      simp only [this, decide_false, Bool.and_false, Bool.false_or]
      rw [ih s.2 n q h.2.2.2 (by simp at hk; omega) (fun m hm => by have := hlo (m + 2) (by omega); rwa [edge_two] at this) hhi]
      rw [Nat.add_mod_right]
theorem edge_range (a : List S) : ∀ (e : Int) (k : Nat), isSet e a = true → k ≤ 2 * a.length → edge a k ≤ 1000000000 := by
  induction a with
  | nil =>
    intro e k _ hk
    have : k = 0 := by simpa using hk
    subst this; simp [edge]
  | cons s t ih =>
    intro e k h hk
    rw [isSet_cons] at h
    match k, hk with
    | 0, _ => rw [edge_zero]; omega
    | 1, _ => rw [edge_one]; omega
    | n + 2, hk => rw [edge_two]; exact ih s.2 n h.2.2.2 (by simp at hk; omega)
def Past (a : List S) (p : Int) (k : Nat) : Prop := k ≤ 2 * a.length ∧ ∀ m, m < k → edge a m ≤ p
theorem Past.more {a : List S} {p q : Int} {k : Nat} (h : Past a p k) (hpq : p ≤ q) : Past a q k := ⟨h.1, fun m hm => by have := h.2 m hm; omega⟩
theorem Past.has_ {a : List S} {e p q : Int} {k : Nat} (h : Past a p k) (hs : isSet e a = true) (hpq : p ≤ q) (hq : q < edge a k) : has a q = decide (k % 2 = 1) :=
  has_edges a e k q hs h.1 (fun m hm => by have := h.2 m hm; omega) hq
theorem Past.succ {a : List S} {p : Int} {k : Nat} (h : Past a p k) (hk : edge a k ≤ p) (hp : p < 1000000000) : Past a p (k + 1) := by
  refine ⟨?_, fun m hm => ?_⟩
  · have h1 := h.1
    rcases Nat.lt_or_ge k (2 * a.length) with c | c
    · omega
    · have : k = 2 * a.length := by omega
      subst this
      rw [edge_top] at hk
      omega
  · rcases Nat.lt_or_ge m k with c | c
    · exact h.2 m c
    · have : m = k := by omega
      subst this; exact hk
theorem foldl_put (d : List S) : ∀ (L : List S), isSet (-1) L = true → (∀ x ∈ L, ∀ y ∈ d, x.1 ≤ y.1) → d.Pairwise (fun x y => x.1 ≤ y.1) → (∀ y ∈ d, 0 ≤ y.1 ∧ y.1 < y.2 ∧ y.2 ≤ 1000000000) →
    isSet (-1) (d.foldl put L) = true ∧ ∀ p, has (d.foldl put L) p = (has L p || has d p) := by
  induction d with
  | nil => intro L h _ _ _; exact ⟨h, fun p => by simp [has_nil]⟩
  | cons s t ih =>
    intro L h hl hp hv
    obtain ⟨v0, v1, v2⟩ := hv s (by simp)
    obtain ⟨g1, g2, g3⟩ := put_ok h (fun x hx => hl x hx s (by simp)) v0 v1 v2
    rw [List.pairwise_cons] at hp
    obtain ⟨k1, k2⟩ := ih (put L s) g1 (fun x hx y hy => by have := g3 x hx; have := hp.1 y hy; omega) hp.2 (fun y hy => hv y (by simp [hy]))
    exact ⟨k1, fun p => by rw [List.foldl_cons, k2, g2, has_cons, Bool.or_assoc]⟩
def clamp (s : S) : S := (max s.1 0, min s.2 1000000000)
def some_ (l : List S) : List S := (l.map clamp).filter fun s => decide (s.1 < s.2)
theorem has_some (l : List S) {p : Int} (h0 : 0 ≤ p) (h1 : p < 1000000000) : has (some_ l) p = has l p := by
  rw [Bool.eq_iff_iff, has_iff, has_iff]
  constructor
  · rintro ⟨s, hs, h2, h3⟩
    simp only [some_, List.mem_filter, List.mem_map, decide_eq_true_eq] at hs
    obtain ⟨⟨t, ht, rfl⟩, _⟩ := hs
    simp only [clamp] at h2 h3
    exact ⟨t, ht, by omega, by omega⟩
  · rintro ⟨t, ht, h2, h3⟩
    refine ⟨clamp t, ?_, by simp only [clamp]; omega, by simp only [clamp]; omega⟩
    simp only [some_, List.mem_filter, List.mem_map, decide_eq_true_eq]
    exact ⟨⟨t, ht, rfl⟩, by simp only [clamp]; omega⟩
theorem some_range (l : List S) : ∀ y ∈ some_ l, 0 ≤ y.1 ∧ y.1 < y.2 ∧ y.2 ≤ 1000000000 := fun y hy => by
  simp only [some_, List.mem_filter, List.mem_map, decide_eq_true_eq] at hy
  obtain ⟨⟨t, ht, rfl⟩, h⟩ := hy
  simp only [clamp] at *
  omega
theorem of_sorted {l d : List S} (hm : ∀ s, s ∈ d ↔ s ∈ some_ l) (hs : d.Pairwise (fun x y => x.1 ≤ y.1)) : d.foldl put [] = nf (has l) := by
  obtain ⟨k1, k2⟩ := foldl_put d [] rfl (fun x hx => by cases hx) hs (fun y hy => some_range l y ((hm y).1 hy))
  refine is_nf k1 fun p h0 h1 => ?_
  rw [k2, has_nil, Bool.false_or, has_of_perm hm, has_some l h0 h1]
theorem some_snoc (l : List S) (s : S) : some_ (l ++ [s]) = if (clamp s).1 < (clamp s).2 then some_ l ++ [clamp s] else some_ l := by
  unfold some_
  rw [List.map_append, List.filter_append]
  by_cases h : (clamp s).1 < (clamp s).2 <;> simp [h]
theorem some_length (l : List S) : (some_ l).length ≤ l.length := by
  unfold some_
  exact Nat.le_trans (List.length_filter_le _ _) (by simp)
def count : List S → Int
  | [] => 0
  | s :: t => s.2 - s.1 + count t
end Go.Proofs.YtllogmokadcfmaaGreat.Span
/-
  Words for texts and cells that need no type of the program: a string out of a list of bytes, cells of integers, rows of the call's own, what stays as memory grows. No condition. Of no program.
-/
namespace Go.Proofs.YtllogmokadcfmaaGreat
open Go.RowKit
set_option linter.unusedVariables false
def str (l : List UInt8) : ByteArray := ⟨l.toArray⟩
def ics (l : List Int) : List Value := l.map fun n => Value.int .i64 n
theorem ics_length (l : List Int) : (ics l).length = l.length := by simp [ics]
theorem ics_at {w : World} {B n k : Nat} {A : Option Addr} {l : List Int} (h : Reads w B 1 A n (ics l)) (hk : k < n) : ∃ ad z, A = some ad ∧ ad.block < B ∧ l[k]? = some z ∧ w.cell? (ad.add k) = some (.int .i64 z) := by
  obtain ⟨ad, u, hA, hb, hx, hc⟩ := h.at_ hk
  simp only [ics, List.getElem?_map, Option.map_eq_some_iff] at hx
  obtain ⟨z, hz, rfl⟩ := hx
  exact ⟨ad, z, hA, hb, hz, hc⟩
theorem add_zero' (a : Addr) : a.add 0 = a := by simp [Addr.add]
theorem take_snoc' {α : Type} (l : List α) (k : Nat) (a : α) (h : l[k]? = some a) : l.take (k + 1) = l.take k ++ [a] := by
  rw [List.take_add_one, h]; rfl
theorem one_cell (k : IntKind) (n : Int) : ∀ u ∈ [Value.int k n], u.oneCell' = true := by
  intro u hu
  rw [List.mem_singleton.1 hu]; rfl
theorem Reads.newL (w : World) (e : TypeId) (vs : Array Value) : Reads (w.alloc (.cells vs e)) (w.heap.size + 1) 1 (some ⟨w.heap.size, 0, none⟩) vs.size vs.toList := by
  refine ⟨by simp, fun _ => ⟨_, rfl, by simp, fun j u hu => ?_⟩⟩
  have hadd : (⟨w.heap.size, 0, none⟩ : Addr).add j = ⟨w.heap.size, j, none⟩ := by unfold Addr.add; split <;> simp_all
  rw [hadd]
  exact ((Blk.new w e vs).cell j).trans (by simpa using hu)
theorem only_self (w : World) (g : Nat) : w.grownBy w (some g) := World.grownBy.refl w _
theorem quiet_left {P : Program} {f : FuncId} {args : Array Value} {w : World} {n : Nat} {v : Value}
    (h : Calls P f args (w.drewN n) fun e w' => e = .returned v ∧ w.drewN n = w') : Calls P f args (w.drewN n) fun e w'' => e = .returned v ∧ ∃ m, w'' = w.drewN m :=
  h.mono fun _ _ ⟨he, hm⟩ => ⟨he, n, hm.symm⟩
end Go.Proofs.YtllogmokadcfmaaGreat
