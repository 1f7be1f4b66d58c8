/-
  Some texts of this claim, one behind the other: RuleCells, RuleCut. What each proves, and its condition, stands at its head.
-/
import Derived.Test.YtmcpdcfeappokaaGreatDoorZ23
import Derived.Test.YtmcpdcfeappokaaGreatDoorZ3
/-
  Slices of words and of pieces in memory: what came in with a call, and what the call makes. No condition.
-/
namespace Go.Proofs.YtmcpdcfeappokaaGreatDoor.Rule
open Go.RowKit Go.Proofs.YtmcpdcfeappokaaGreatDoor.Span
set_option linter.unusedVariables false
/-- Words as cells. -/
def wcs : List W → List Value
  | [] => []
  | q :: t => .string (str q.1) :: .int .i64 (q.2 : Int) :: wcs t
theorem wcs_length (l : List W) : (wcs l).length = l.length * 2 := by
  induction l with
  | nil => rfl
  | cons s t ih => simp [wcs, ih]; omega
theorem wcs_append (l m : List W) : wcs (l ++ m) = wcs l ++ wcs m := by
  induction l with
  | nil => rfl
  | cons s t ih => simp [wcs, ih]
theorem wcs_one (l : List W) : ∀ u ∈ wcs l, u.oneCell' = true := by
  induction l with
  | nil => intro u hu; cases hu
  | cons s t ih =>
    intro u hu
    simp only [wcs, List.mem_cons] at hu
    rcases hu with rfl | rfl | hu
    · rfl
    · rfl
    · exact ih u hu
theorem wcs_get (l : List W) : ∀ (i : Nat) (q : W), l[i]? = some q → (wcs l)[i * 2]? = some (.string (str q.1)) ∧ (wcs l)[i * 2 + 1]? = some (.int .i64 (q.2 : Int)) := by
  induction l with
  | nil => intro i s h; simp at h
  | cons x t ih =>
    intro i s h
    cases i with
    | zero => simp at h; subst h; exact ⟨rfl, rfl⟩
    | succ i =>
      rw [List.getElem?_cons_succ] at h
      have := ih i s h
      rw [show (i + 1) * 2 = i * 2 + 1 + 1 by omega, show i * 2 + 1 + 1 + 1 = (i * 2 + 1) + 1 + 1 by omega]
      exact this
/-- A slice that reads as words. -/
def WdIn (w : World) (B : Nat) (A : Option Addr) (n : Nat) (l : List W) : Prop :=
  l.length = n ∧ (0 < n → ∃ ad, A = some ad ∧ ad.block < B ∧ ∀ i (q : W), l[i]? = some q → w.cell? (ad.add (i * 2)) = some (.string (str q.1)) ∧ w.cell? ⟨(ad.add (i * 2)).block, (ad.add (i * 2)).off + 1, none⟩ = some (.int .i64 (q.2 : Int)))
theorem WdIn.at_ {w : World} {B n k : Nat} {A : Option Addr} {l : List W} (h : WdIn w B A n l) (hk : k < n) :
    ∃ ad q, A = some ad ∧ ad.block < B ∧ l[k]? = some q ∧ w.cell? (ad.add (k * 2)) = some (.string (str q.1)) ∧ w.cell? ⟨(ad.add (k * 2)).block, (ad.add (k * 2)).off + 1, none⟩ = some (.int .i64 (q.2 : Int)) := by
  obtain ⟨hl, h⟩ := h
  obtain ⟨ad, hA, hb, hc⟩ := h (by omega)
  have hp : l[k]? = some l[k] := by simp
  exact ⟨ad, l[k], hA, hb, hp, (hc k _ hp).1, (hc k _ hp).2⟩
theorem WdIn.below {w w' : World} {B n : Nat} {A : Option Addr} {l : List W} (h : WdIn w B A n l) (hb : Below B w w') : WdIn w' B A n l :=
  ⟨h.1, fun hn => by
    obtain ⟨ad, hA, hbl, hc⟩ := h.2 hn
    refine ⟨ad, hA, hbl, fun i p hp => ?_⟩
    rw [hb.cell (by rw [block_of_add]; exact hbl), hb.cell (p := ⟨(ad.add (i * 2)).block, (ad.add (i * 2)).off + 1, none⟩) (by simp only [block_of_add]; exact hbl)]
    exact hc i p hp⟩
theorem WdIn.more {w : World} {B B' n : Nat} {A : Option Addr} {l : List W} (h : WdIn w B A n l) (hb : B ≤ B') : WdIn w B' A n l :=
  ⟨h.1, fun hn => by
    obtain ⟨ad, hA, hbl, hc⟩ := h.2 hn
    exact ⟨ad, hA, by omega, hc⟩⟩
theorem WdIn.nil (w : World) (B : Nat) (A : Option Addr) : WdIn w B A 0 [] := ⟨rfl, fun h => absurd h (by omega)⟩
theorem wdIn_of_reads {w : World} {B n : Nat} {A : Option Addr} {l : List W} (h : Reads w B 2 A n (wcs l)) : WdIn w B A n l := by
  have hl : l.length = n := by have := h.1; rw [wcs_length] at this; omega
  refine ⟨hl, fun hn => ?_⟩
  obtain ⟨ad, hA, hb, hc⟩ := h.2 hn
  refine ⟨ad, hA, hb, fun i s hs => ?_⟩
  obtain ⟨h1, h2⟩ := wcs_get l i s hs
  exact ⟨hc _ _ h1, by rw [← add_field]; exact hc _ _ h2⟩
theorem reads_word (w : World) (x : List UInt8) (p : Nat) (T : TypeId) (g : Nat) (hg : g = w.heap.size) :
    Reads (w.alloc (.cells #[.string (str x), .int .i64 (p : Int)] T)) (w.heap.size + 1) 2 (some ⟨g, 0, none⟩) 1 (wcs [(x, p)]) := by
  subst hg
  have h := Reads.newL w T #[.string (str x), .int .i64 (p : Int)]
  exact ⟨rfl, fun _ => h.2 (by simp)⟩
/-- Pieces as cells: a slice, and a number. -/
def pcs : List (Value × Nat) → List Value
  | [] => []
  | r :: t => r.1 :: .int .i64 (r.2 : Int) :: pcs t
theorem pcs_length (l : List (Value × Nat)) : (pcs l).length = l.length * 2 := by
  induction l with
  | nil => rfl
  | cons s t ih => simp [pcs, ih]; omega
theorem pcs_append (l m : List (Value × Nat)) : pcs (l ++ m) = pcs l ++ pcs m := by
  induction l with
  | nil => rfl
  | cons s t ih => simp [pcs, ih]
theorem pcs_get (l : List (Value × Nat)) : ∀ (i : Nat) (r : Value × Nat), l[i]? = some r → (pcs l)[i * 2]? = some r.1 ∧ (pcs l)[i * 2 + 1]? = some (.int .i64 (r.2 : Int)) := by
  induction l with
  | nil => intro i s h; simp at h
  | cons x t ih =>
    intro i s h
    cases i with
    | zero => simp at h; subst h; exact ⟨rfl, rfl⟩
    | succ i =>
      rw [List.getElem?_cons_succ] at h
      have := ih i s h
      rw [show (i + 1) * 2 = i * 2 + 1 + 1 by omega, show i * 2 + 1 + 1 + 1 = (i * 2 + 1) + 1 + 1 by omega]
      exact this
theorem reads_piece (w : World) (A : Option Addr) (n c p : Nat) (T : TypeId) (g : Nat) (hg : g = w.heap.size) :
    Reads (w.alloc (.cells #[.slice A n c, .int .i64 (p : Int)] T)) (w.heap.size + 1) 2 (some ⟨g, 0, none⟩) 1 (pcs [(.slice A n c, p)]) := by
  subst hg
  have h := Reads.newL w T #[.slice A n c, .int .i64 (p : Int)]
  exact ⟨rfl, fun _ => h.2 (by simp)⟩
theorem pcs_one1 (A : Option Addr) (n c p : Nat) : ∀ u ∈ pcs [(.slice A n c, p)], u.oneCell' = true := by
  intro u hu
  simp only [pcs, List.mem_cons, List.not_mem_nil, or_false] at hu
  rcases hu with rfl | rfl <;> rfl
/-- A slice that reads as pieces. -/
def PcIn (w : World) (B : Nat) (A : Option Addr) (n : Nat) (l : List Pc) : Prop :=
  l.length = n ∧ (0 < n → ∃ ad, A = some ad ∧ ad.block < B ∧ ∀ i (q : Pc), l[i]? = some q → ∃ A' n' c', WdIn w B A' n' q.1 ∧ w.cell? (ad.add (i * 2)) = some (.slice A' n' c') ∧ w.cell? ⟨(ad.add (i * 2)).block, (ad.add (i * 2)).off + 1, none⟩ = some (.int .i64 (q.2 : Int)))
theorem PcIn.at_ {w : World} {B n k : Nat} {A : Option Addr} {l : List Pc} (h : PcIn w B A n l) (hk : k < n) :
    ∃ ad q A' n' c', A = some ad ∧ ad.block < B ∧ l[k]? = some q ∧ WdIn w B A' n' q.1 ∧ w.cell? (ad.add (k * 2)) = some (.slice A' n' c') ∧ w.cell? ⟨(ad.add (k * 2)).block, (ad.add (k * 2)).off + 1, none⟩ = some (.int .i64 (q.2 : Int)) := by
  obtain ⟨hl, h⟩ := h
  obtain ⟨ad, hA, hb, hc⟩ := h (by omega)
  have hp : l[k]? = some l[k] := by simp
  obtain ⟨A', n', c', h1, h2, h3⟩ := hc k _ hp
  exact ⟨ad, l[k], A', n', c', hA, hb, hp, h1, h2, h3⟩
theorem PcIn.below {w w' : World} {B n : Nat} {A : Option Addr} {l : List Pc} (h : PcIn w B A n l) (hb : Below B w w') : PcIn w' B A n l :=
  ⟨h.1, fun hn => by
    obtain ⟨ad, hA, hbl, hc⟩ := h.2 hn
    refine ⟨ad, hA, hbl, fun i p hp => ?_⟩
    rw [hb.cell (by rw [block_of_add]; exact hbl), hb.cell (p := ⟨(ad.add (i * 2)).block, (ad.add (i * 2)).off + 1, none⟩) (by simp only [block_of_add]; exact hbl)]
    obtain ⟨A', n', c', h1, h2, h3⟩ := hc i p hp
    exact ⟨A', n', c', h1.below hb, h2, h3⟩⟩
theorem WdIn.head {w : World} {B n : Nat} {A : Option Addr} {l : List W} (h : WdIn w B A n l) : n = l.length := h.1.symm
/-! What is being cut: pieces that are done, the words of the one at hand, how far the text is gone through. -/
theorem own_ne {w : World} {B B' s s' n n' : Nat} {T T' : TypeId} {v v' : Value} {xs xs' : List Value} (h : w.ownsRow B T s v n xs) (h' : w.ownsRow B' T' s' v' n' xs') (hT : T ≠ T') : v.ownBlock = none ∨ v.ownBlock ≠ v'.ownBlock := by
  rcases h.2 with ⟨rfl, _⟩ | ⟨g, cap, cur, rfl, _, hg, _⟩
  · exact .inl rfl
  · right
    rcases h'.2 with ⟨rfl, _⟩ | ⟨g', cap', cur', rfl, _, hg', _⟩
    · simp [Value.ownBlock]
    · intro e
      simp only [Value.ownBlock, Option.some.injEq] at e
      subst e
      rw [hg] at hg'
      injection hg' with hg'
      injection hg' with _ e
      exact hT e
theorem own_iter {w : World} {B s n k p : Nat} {T : TypeId} {v : Value} {xs : List Value} {t : ByteArray} (h : w.ownsRow B T s v n xs) (hk : w.heap[k]? = some (.stringIter t p)) (q : Nat) : (w.iterAt k t q).ownsRow B T s v n xs := by
  refine ⟨h.1, ?_⟩
  rcases h.2 with hn | ⟨g, cap, cur, rfl, hb, hg, rest⟩
  · exact .inl hn
  · refine .inr ⟨g, cap, cur, rfl, hb, ?_, rest⟩
    rw [Go.Lib.iterAt_other w _ _ t q (by rintro rfl; rw [hk] at hg; cases hg)]
    exact hg
/-- Pieces that are done. -/
def Fins (w : World) (B : Nat) (TW : TypeId) (vW : Value) (rs : List (Value × Nat)) (ps : List Pc) : Prop :=
  rs.length = ps.length ∧ ∀ (i : Nat) (r : Value × Nat) (q : Pc), rs[i]? = some r → ps[i]? = some q → (∃ n, w.ownsRow B TW 2 r.1 n (wcs q.1)) ∧ r.2 = q.2 ∧ (r.1.ownBlock = none ∨ r.1.ownBlock ≠ vW.ownBlock)
theorem Fins.keep {w w' : World} {B : Nat} {TW : TypeId} {vW vW' : Value} {rs : List (Value × Nat)} {ps : List Pc} (h : Fins w B TW vW rs ps)
    (hk : ∀ v n xs, w.ownsRow B TW 2 v n xs → (v.ownBlock = none ∨ v.ownBlock ≠ vW.ownBlock) → w'.ownsRow B TW 2 v n xs ∧ (v.ownBlock = none ∨ v.ownBlock ≠ vW'.ownBlock)) : Fins w' B TW vW' rs ps :=
  ⟨h.1, fun i r q hr hq => by
    obtain ⟨⟨n, h1⟩, h2, h3⟩ := h.2 i r q hr hq
    obtain ⟨k1, k2⟩ := hk _ _ _ h1 h3
    exact ⟨⟨n, k1⟩, h2, k2⟩⟩
structure Cut (w0 : World) (TP TW : TypeId) (t : ByteArray) (w : World) (vP vW : Value) (nP nW : Nat) (rs : List (Value × Nat)) (ps : List Pc) (ws : List W) (pos : Nat) : Prop where
  P : w.ownsRow w0.heap.size TP 2 vP nP (pcs rs)
  Wd : w.ownsRow w0.heap.size TW 2 vW nW (wcs ws)
  F : Fins w w0.heap.size TW vW rs ps
  I : w.heap[w0.heap.size]? = some (.stringIter t pos)
  b : Below w0.heap.size w0 w
theorem pieces_start (w0 : World) (TP TW : TypeId) (t : ByteArray) : Cut w0 TP TW t (w0.alloc (.stringIter t 0)) (.slice none 0 0) (.slice none 0 0) 0 0 [] [] [] 0 :=
  ⟨World.ownsRow_nil _ _ _ _, World.ownsRow_nil _ _ _ _, ⟨rfl, fun i r q hr _ => by simp at hr⟩, World.iter_heap w0 t 0, (Below.refl _ _).alloc (Nat.le_refl _) _⟩
section
variable {w0 w : World} {TP TW : TypeId} {t : ByteArray} {vP vW : Value} {nP nW : Nat} {rs : List (Value × Nat)} {ps : List Pc} {ws : List W} {pos : Nat}
theorem Cut.iter (h : Cut w0 TP TW t w vP vW nP nW rs ps ws pos) (p : Nat) : Cut w0 TP TW t (w.iterAt w0.heap.size t p) vP vW nP nW rs ps ws p :=
  ⟨own_iter h.P h.I p, own_iter h.Wd h.I p, h.F.keep fun v n xs h1 h2 => ⟨own_iter h1 h.I p, h2⟩, Go.Lib.iterAt_heap _ _ _ _ _ h.I, Go.Lib.below_iterAt h.b (Nat.le_refl _) t p⟩
theorem Cut.alloc (h : Cut w0 TP TW t w vP vW nP nW rs ps ws pos) (o : Obj) : Cut w0 TP TW t (w.alloc o) vP vW nP nW rs ps ws pos :=
  ⟨h.P.alloc o, h.Wd.alloc o, h.F.keep fun v n xs h1 h2 => ⟨h1.alloc o, h2⟩, (Below.heap_alloc w o _ (by
    rcases Nat.lt_or_ge w0.heap.size w.heap.size with c | c
    · exact c
    · have := h.I; rw [Array.getElem?_eq_none c] at this; cases this)).trans h.I, h.b.alloc h.b.size o⟩
theorem Cut.lt (h : Cut w0 TP TW t w vP vW nP nW rs ps ws pos) : w0.heap.size < w.heap.size := by
  rcases Nat.lt_or_ge w0.heap.size w.heap.size with c | c
  · exact c
  · have := h.I; rw [Array.getElem?_eq_none c] at this; cases this
theorem own_not_iter {w : World} {B s n k p : Nat} {T : TypeId} {v : Value} {xs : List Value} {t : ByteArray} (h : w.ownsRow B T s v n xs) (hk : w.heap[k]? = some (.stringIter t p)) : some k ≠ v.ownBlock := by
  rcases h.2 with ⟨rfl, _⟩ | ⟨g, cap, cur, rfl, hb, hg, rest⟩
  · simp [Value.ownBlock]
  · intro e
    simp only [Value.ownBlock, Option.some.injEq] at e
    subst e
    rw [hk] at hg
    cases hg
/-- A word more. -/
theorem Cut.word (h : Cut w0 TP TW t w vP vW nP nW rs ps ws pos) (hT : TP ≠ TW) {w1 : World} {v1 : Value} {m : Nat} {vs : List W} (h1 : w1.ownsRow w0.heap.size TW 2 v1 m (wcs vs)) (hg : w.grownBy w1 vW.ownBlock) (ha : v1.ownBlock = vW.ownBlock ∨ v1.ownBlock = some w.heap.size) :
    Cut w0 TP TW t w1 vP v1 nP m rs ps vs pos :=
  ⟨h.P.kept hg (own_ne h.P h.Wd hT), h1, h.F.keep fun v n xs h2 h3 => ⟨h2.kept hg h3, by
      rcases ha with ha | ha
      · rw [ha]; exact h3
      · rcases hv : v.ownBlock with _ | k
        · exact .inl rfl
        · right
          rw [ha]
          intro e
          injection e with e
          have := (h2.lt k hv).2
          omega⟩,
    (hg.block _ h.lt (own_not_iter h.Wd h.I)).trans h.I, h.b.grown hg h.b.size (fun k hk => (h.Wd.lt k hk).1)⟩
/-- A piece more. -/
theorem Cut.piece (h : Cut w0 TP TW t w vP vW nP nW rs ps ws pos) (hT : TP ≠ TW) {w1 : World} {v1 : Value} {m e : Nat} (h1 : w1.ownsRow w0.heap.size TP 2 v1 m (pcs rs ++ pcs [(vW, e)])) (hg : w.grownBy w1 vP.ownBlock) :
    Cut w0 TP TW t w1 v1 (.slice none 0 0) m 0 (rs ++ [(vW, e)]) (ps ++ [(ws, e)]) [] pos := by
  have hW := h.Wd.kept hg (own_ne h.Wd h.P hT.symm)
  refine ⟨by rw [pcs_append]; exact h1, World.ownsRow_nil _ _ _ _, ⟨by simp [h.F.1], fun i r q hr hq => ?_⟩, (hg.block _ h.lt (own_not_iter h.P h.I)).trans h.I, h.b.grown hg h.b.size (fun k hk => (h.P.lt k hk).1)⟩
  have hn : r.1.ownBlock = none ∨ r.1.ownBlock ≠ (Value.slice none 0 0).ownBlock := by
    rcases hv : r.1.ownBlock with _ | k
    · exact .inl rfl
    · exact .inr (by simp [Value.ownBlock])
  rcases Nat.lt_or_ge i rs.length with c | c
  · rw [List.getElem?_append_left c] at hr
    rw [List.getElem?_append_left (by rw [← h.F.1]; exact c)] at hq
    obtain ⟨⟨n, k1⟩, k2, k3⟩ := h.F.2 i r q hr hq
    exact ⟨⟨n, k1.kept hg (own_ne k1 h.P hT.symm)⟩, k2, hn⟩
  · rw [List.getElem?_append_right c] at hr
    rw [List.getElem?_append_right (by rw [← h.F.1]; exact c)] at hq
    rcases hi : i - rs.length with _ | j
    · rw [hi] at hr
      rw [← h.F.1, hi] at hq
      simp at hr hq
      subst hr hq
      exact ⟨⟨_, hW⟩, rfl, hn⟩
    · rw [hi] at hr
      simp at hr
/-- At the end. -/
theorem Cut.told (h : Cut w0 TP TW t w vP vW nP nW rs ps ws pos) : ∃ A c, vP = .slice A nP c ∧ PcIn w w.heap.size A nP ps := by
  obtain ⟨A, c, rfl, _, _, hr⟩ := own_form h.P
  have hl : rs.length = nP := by have := hr.1; rw [pcs_length] at this; omega
  refine ⟨A, c, rfl, by rw [← h.F.1]; exact hl, fun hn => ?_⟩
  obtain ⟨ad, hA, hb, hc⟩ := hr.2 hn
  refine ⟨ad, hA, hb, fun i q hq => ?_⟩
  have hi : i < rs.length := by rw [h.F.1]; exact (List.getElem?_eq_some_iff.1 hq).1
  obtain ⟨⟨n, k1⟩, k2, k3⟩ := h.F.2 i rs[i] q (by simp) hq
  obtain ⟨A', c', e1, _, _, hr'⟩ := own_form k1
  obtain ⟨g1, g2⟩ := pcs_get rs i rs[i] (by simp)
  refine ⟨A', n, c', wdIn_of_reads hr', ?_, ?_⟩
  · rw [← e1]; exact hc _ _ g1
  · rw [← add_field, ← k2]; exact hc _ _ g2
end
end Go.Proofs.YtmcpdcfeappokaaGreatDoor.Rule
/-
  The contract of the program's cut: a text's pieces. Condition: at most 1,000 bytes.
-/
namespace Go.Proofs.YtmcpdcfeappokaaGreatDoor.Rule
open Go.RowKit Go.Lib Go.Proofs.YtmcpdcfeappokaaGreatDoor.Label Go.Proofs.YtmcpdcfeappokaaGreatDoor.Span
set_option linter.unusedVariables false
theorem info_word : (Tryz.prog.info? 129).map (fun i => (i.zero, i.size, i.bytes)) = some (some (.agg #[.string ByteArray.empty, .int .i64 0]), 2, 24) := by kernel_rfl
theorem info_piece : (Tryz.prog.info? 127).map (fun i => (i.zero, i.size, i.bytes)) = some (some (.agg #[.slice none 0 0, .int .i64 0]), 2, 32) := by kernel_rfl
theorem pos_of {w : World} {k : Nat} {s : ByteArray} {p : Nat} (h : w.heap[k]? = some (.stringIter s p)) : w.iterPos k = p := by simp [World.iterPos, h]
set_option maxHeartbeats 2000000 in
set_option maxRecDepth 100000 in
theorem cut_any (l : List UInt8) (w : World) (hl : l.length ≤ 1000) :
    Calls Tryz.prog 87 #[.string (str l)] w fun e w' => ∃ A n c, e = .returned (.slice A n c) ∧ PcIn w' w'.heap.size A n (cutL l) ∧ n ≤ 1001 ∧ Below w.heap.size w w' := by
  obtain ⟨i0, hi0, hz0, hz1, hz2⟩ := info_parts info_word
  obtain ⟨j0, hj0, hy0, hy1, hy2⟩ := info_parts info_piece
  obtain ⟨L, hL⟩ : ∃ L, L = l ++ [124] := ⟨_, rfl⟩
  have hLl : L.length = l.length + 1 := by rw [hL]; simp
  have hT : str l ++ ⟨#[124]⟩ = str L := by rw [hL]; exact str_append l [124]
  have hsz : (str L).size = l.length + 1 := by rw [str_size, hLl]
  have hls : (str l).size ≤ 1000 := by rw [str_size]; exact hl
  have hTT : 127 ≠ 129 := by decide
  have Hend := hide (fun ps ws b (h : cutL l ++ [([], l.length + 1)] = ps ++ goAt L (l.length + 1) b ws) hb => by rw [hL] at h; exact @cut_end l ps ws b h hb)
  have H0 : Hid (cutL l ++ [([], l.length + 1)] = goAt L 0 0 []) := hide (by rw [goAt_zero, hL, cut_mark])
  have Hseg := hide (fun b e (h : b ≤ e) (he : e ≤ l.length) => by have := @seg_front l [124] b e h he; rw [← hL] at this; exact this)
  clear hL
  go_enter Tryz.func87, Tryz.ntmps87
  go_wp2
  go_loopw [3, 4, 5] (fun u v x wr => ∃ (pos b nP nW : Nat) (rs : List (Value × Nat)) (ps : List Pc) (ws : List W), Cut w 127 129 (str L) wr u v nP nW rs ps ws pos ∧ x = .int .i64 (b : Int) ∧ b ≤ pos ∧ pos ≤ l.length + 1 ∧ Hid (cutL l ++ [([], l.length + 1)] = ps ++ goAt L pos b ws) ∧ nP ≤ pos ∧ nW ≤ pos) (fun _ _ _ wr => l.length + 1 - wr.iterPos w.heap.size)
  case atStart => exact ⟨0, 0, 0, 0, [], [], [], pieces_start w _ _ _, rfl, by omega, by omega, H0, by omega, by omega⟩
  case round =>
    obtain ⟨pos, b, nP, nW, rs, ps, ws, hC, rfl, hbp, hpl, hG, hnP, hnW⟩ := hrel
    by_cases hlt : pos < l.length + 1
    · have hp : pos < (str L).size := by omega
      have hpL : pos < L.length := by omega
      have hnx : ∀ ty, (Instr.next (.pointer (some ⟨w.heap.size, 0, none⟩)) true ty).run Tryz.prog wr = .ok (.tuple #[.bool true, .int .i64 pos, .int .i32 (rn (str L) pos)]) (wr.iterAt w.heap.size (str L) (pos + wd (str L) pos)) := fun ty => run_next_any_at wr w.heap.size (str L) pos ty hC.I hp
      have hwd := wd_pos (str L) pos hp
      have hwl := wd_le (str L) pos hp
      have hrl := rn_le (str L) pos
      have HC := hide (hC.iter (pos + wd (str L) pos))
      have hmeas := pos_of hC.I
      have hlt0 := hC.lt
      obtain ⟨Wr, hW⟩ : ∃ Wr, Wr = wr.iterAt w.heap.size (str L) (pos + wd (str L) pos) := ⟨_, rfl⟩
      rw [← hW] at hnx HC
      have hWs := HC.out.lt
      obtain ⟨Aw, cw, rfl, _⟩ := own_form hC.Wd
      obtain ⟨Ap, cp, rfl, _⟩ := own_form hC.P
      clear hW hC
      by_cases hX : rn (str L) pos = 32 ∨ rn (str L) pos = 124
      · have hbl : pos ≤ l.length := by omega
        have hsg := Hseg.out b pos hbp hbl
        have hnil := seg_nil l hbp hbl
        have hsl : ∀ Wx : World, b ≤ pos → (Instr.slice 9 (.string (str l)) (some (.int .i64 (b : Int))) (some (.int .i64 (pos : Int))) none).run Tryz.prog Wx = .ok (.string (str (seg l b pos))) Wx := fun Wx hb => by
          rw [run_slice_string Wx 9 (str l) .i64 .i64 (b : Int) (pos : Int) Tryz.underlying9 (by omega) (by omega) (by rw [str_size]; omega), Int.toNat_natCast, Int.toNat_natCast, str_extract]
          rfl
        by_cases hlt2 : b < pos
        · have hne : seg l b pos ≠ [] := fun e => by have := hnil.1 e; omega
          have hpush : ∀ vs : List W, push (seg L b pos) vs b = vs ++ [(seg l b pos, b)] := fun vs => by rw [hsg]; simp [push, hne]
          have hsl := fun Wx => hsl Wx hbp
          rcases hX with hX | hX
          · obtain ⟨e1, e2⟩ := at_blank L hpL hX
            have HG := hide (goAt_blank L ws hbp hpL e2)
            rw [hpush] at HG
            rw [hX] at hnx
            rw [e1] at HC
            clear hpush hne hnil hsg hX e1 e2 Hseg
            generalize seg l b pos = x at *
            go_wp2_with (first
            | (at_builtin
               refine wpList_append_any _ rfl (.tmp 24) (.tmp 31) _ rfl w.heap.size 129 i0 _ 2 24 Tryz.underlying125 hi0 hz0 hz1 hz2 rfl (by omega) _ _ _ rfl
                 ((HC.out.alloc _).Wd) _ _ 1 _ _ rfl (reads_word _ _ _ _ _ rfl) (wcs_one _) (by unfold maxLen; omega) (by omega) (by simp; omega) ?_
               intro v1 w1 hown1 hg1 hat1
               rw [← wcs_append] at hown1
               have HC1 := hide ((HC.out.alloc _).word hTT hown1 hg1 hat1)
               have hW1 := HC1.out.lt
               obtain ⟨A1, c1, rfl, _⟩ := own_form hown1
               clear hg1 hat1 hown1))
            go_roundw
            case rel => exact ⟨pos + 1, pos + 1, _, _, _, _, _, HC1.out, by go_num, by omega, by omega, hide (by rw [hG.out, HG.out]), by omega, by omega⟩
            case measure => rw [pos_of HC1.out.I, hmeas]; omega
          · obtain ⟨e1, e2⟩ := at_mark L hpL hX
            have HG := hide (goAt_mark L ws hbp hpL e2)
            rw [hpush] at HG
            rw [hX] at hnx
            rw [e1] at HC
            clear hpush hne hnil hsg hX e1 e2 Hseg
            generalize seg l b pos = x at *
            go_wp2_with (first
            | (at_builtin
               refine wpList_append_any _ rfl (.tmp 24) (.tmp 31) _ rfl w.heap.size 129 i0 _ 2 24 Tryz.underlying125 hi0 hz0 hz1 hz2 rfl (by omega) _ _ _ rfl
                 ((HC.out.alloc _).Wd) _ _ 1 _ _ rfl (reads_word _ _ _ _ _ rfl) (wcs_one _) (by unfold maxLen; omega) (by omega) (by simp; omega) ?_
               intro v1 w1 hown1 hg1 hat1
               rw [← wcs_append] at hown1
               have HC1 := hide ((HC.out.alloc _).word hTT hown1 hg1 hat1)
               have hW1 := HC1.out.lt
               obtain ⟨A1, c1, rfl, _⟩ := own_form hown1
               clear hg1 hat1 hown1)
            | (at_builtin
               refine wpList_append_any _ rfl (.tmp 37) (.tmp 41) _ rfl w.heap.size 127 j0 _ 2 32 Tryz.underlying113 hj0 hy0 hy1 hy2 rfl (by omega) _ _ _ rfl
                 ((HC1.out.alloc _).P) _ _ 1 _ _ rfl (reads_piece _ _ _ _ _ _ _ rfl) (pcs_one1 _ _ _ _) (by unfold maxLen; omega) (by omega) (by simp; omega) ?_
               intro v2 w2 hown2 hg2 hat2
               have HC2 := hide ((HC1.out.alloc _).piece hTT hown2 hg2)
               clear hg2 hat2 hown2))
            go_roundw
            case rel => exact ⟨pos + 1, pos + 1, _, _, _, _, _, HC2.out, by go_num, by omega, by omega, hide (by rw [hG.out, HG.out, List.append_assoc]; rfl), by omega, by omega⟩
            case measure => rw [pos_of HC2.out.I, hmeas]; omega
        · have hbe : b = pos := by omega
          have hpush : ∀ vs : List W, push (seg L b pos) vs b = vs := fun vs => by rw [hsg, hbe, seg_self]; rfl
          clear hsl
          rcases hX with hX | hX
          · obtain ⟨e1, e2⟩ := at_blank L hpL hX
            have HG := hide (goAt_blank L ws hbp hpL e2)
            rw [hpush] at HG
            rw [hX] at hnx
            rw [e1] at HC
            clear hpush hnil hsg hX e1 e2 Hseg hbe
            go_wp2
            go_roundw
            case rel => exact ⟨pos + 1, pos + 1, _, _, _, _, _, HC.out, by go_num, by omega, by omega, hide (by rw [hG.out, HG.out]), by omega, by omega⟩
            case measure => rw [pos_of HC.out.I, hmeas]; omega
          · obtain ⟨e1, e2⟩ := at_mark L hpL hX
            have HG := hide (goAt_mark L ws hbp hpL e2)
            rw [hpush] at HG
            rw [hX] at hnx
            rw [e1] at HC
            clear hpush hnil hsg hX e1 e2 Hseg hbe
            go_wp2_with (first
            | (at_builtin
               refine wpList_append_any _ rfl (.tmp 37) (.tmp 41) _ rfl w.heap.size 127 j0 _ 2 32 Tryz.underlying113 hj0 hy0 hy1 hy2 rfl (by omega) _ _ _ rfl
                 ((HC.out.alloc _).P) _ _ 1 _ _ rfl (reads_piece _ _ _ _ _ _ _ rfl) (pcs_one1 _ _ _ _) (by unfold maxLen; omega) (by omega) (by simp; omega) ?_
               intro v2 w2 hown2 hg2 hat2
               have HC2 := hide ((HC.out.alloc _).piece hTT hown2 hg2)
               clear hg2 hat2 hown2))
            go_roundw
            case rel => exact ⟨pos + 1, pos + 1, _, _, _, _, _, HC2.out, by go_num, by omega, by omega, hide (by rw [hG.out, HG.out, List.append_assoc]; rfl), by omega, by omega⟩
            case measure => rw [pos_of HC2.out.I, hmeas]; omega
      · have HG := hide (goAt_rune L ws hbp hpL (fun e => hX (.inl e)) (fun e => hX (.inr e)))
        have hx1 : ((rn (str L) pos : Int) != 32) = true := bne_iff_ne.2 fun e => hX (.inl (by omega))
        have hx2 : ((rn (str L) pos : Int) != 124) = true := bne_iff_ne.2 fun e => hX (.inr (by omega))
        clear hX Hseg
        rw [hsz] at hwl
        generalize wd (str L) pos = V at *
        generalize rn (str L) pos = X at *
        go_wp2
        go_roundw
        case rel => exact ⟨pos + V, b, _, _, _, _, _, HC.out, rfl, by omega, by omega, hide (by rw [hG.out, HG.out]), by omega, by omega⟩
        case measure => rw [pos_of HC.out.I, hmeas]; omega
    · have hnx : ∀ ty, (Instr.next (.pointer (some ⟨w.heap.size, 0, none⟩)) true ty).run Tryz.prog wr = .ok (.tuple #[.bool false]) wr := fun ty => run_next_end_at wr w.heap.size (str L) pos ty hC.I (by omega)
      have hpe : pos = l.length + 1 := by omega
      subst hpe
      obtain ⟨A, c, rfl, hin⟩ := hC.told
      have HE := hide (Hend.out ps ws b hG.out hbp)
      have hbw := hC.b
      clear hC hG Hend Hseg H0
      go_wp2
      go_ret
      rw [HE.out]
      exact ⟨_, _, _, rfl, hin, by omega, hbw⟩
end Go.Proofs.YtmcpdcfeappokaaGreatDoor.Rule
