/-
  Some texts of this claim, one behind the other: NeedReadAll. What each proves, and its condition, stands at its head.
-/
import Derived.Test.YtmcpdcfeappokaaGreatDoorZ26
import Derived.Test.YtmcpdcfeappokaaGreatDoorZ33
import Derived.RangeFuncBox
import Derived.Shelf.RegionOpen
import Derived.Maps.AppendAt
/-
  The contract of Read, at a text that is not too long and has more than blanks: piece by piece. Condition: at most 2,000 bytes, not blanks alone; the tables hold what the texts lay in them.
-/
namespace Go.Proofs.YtmcpdcfeappokaaGreatDoor.Need
open Go Go.RowKit Go.Lib Go.Proofs.YtmcpdcfeappokaaGreatDoor.Span
open Go.Proofs.YtmcpdcfeappokaaGreatDoor.Ver (Tabs)
set_option linter.unusedVariables false
attribute [local go_sem] Oper.semAt_some
def lastN (l : List Nd) : ByteArray := (l.getLast?.map Prod.fst).getD ByteArray.empty
theorem lastN_snoc (l : List Nd) (q : Nd) : lastN (l ++ [q]) = q.1 := by simp [lastN]
/-- The needs of pieces, if each is read. -/
noncomputable def runsF : List Nd → List Piece → Option (List Nd)
  | m, [] => some m
  | m, x :: r => match readP x.1.2 (lastN m) with
    | .ok q => runsF (m ++ [q]) r
    | .bad _ _ => none
inductive Out where
  | ok : List Nd → Out
  | bad : Int → Int → Out
/-- What pieces are read as. -/
noncomputable def outOf : List (Nat × List UInt8) → List Nd → Out
  | [], m => if 6 < m.length then .bad 0 4 else .ok m
  | x :: r, m => match readP x.2 (lastN m) with
    | .ok q => outOf r (m ++ [q])
    | .bad p e => .bad (wrap64 ((x.1 : Int) + p)) e
theorem runs_snoc (x : Piece) : ∀ (r : List Piece) (m : List Nd), runsF m (r ++ [x]) = (runsF m r).bind fun k => match readP x.1.2 (lastN k) with | .ok q => some (k ++ [q]) | .bad _ _ => none
  | [], m => by
    simp only [List.nil_append, runsF, Option.bind_some]
  | y :: r, m => by
    simp only [List.cons_append, runsF]
    cases readP y.1.2 (lastN m) with
    | ok q => exact runs_snoc x r _
    | bad p e => rfl
theorem runs_out (t : List (Nat × List UInt8)) : ∀ (r : List Piece) (m k : List Nd), runsF m r = some k → outOf (r.map Subtype.val ++ t) m = outOf t k
  | [], m, k, h => by
    simp only [runsF, Option.some.injEq] at h
    subst h; rfl
  | y :: r, m, k, h => by
    simp only [runsF] at h
    simp only [List.map_cons, List.cons_append, outOf]
    cases hy : readP y.1.2 (lastN m) with
    | ok q => rw [hy] at h; exact runs_out t r _ k h
    | bad p e => rw [hy] at h; cases h
theorem runs_len : ∀ (r : List Piece) (m k : List Nd), runsF m r = some k → k.length = m.length + r.length
  | [], m, k, h => by
    simp only [runsF, Option.some.injEq] at h
    subst h; rfl
  | y :: r, m, k, h => by
    simp only [runsF] at h
    cases hy : readP y.1.2 (lastN m) with
    | ok q =>
      rw [hy] at h
      have := runs_len r _ k h
      simp only [List.length_append, List.length_singleton] at this
      simp only [List.length_cons]
      omega
    | bad p e => rw [hy] at h; cases h
def outAt : Out → Int
  | .ok _ => 0
  | .bad p _ => p
def outErr : Out → Int
  | .ok _ => 0
  | .bad _ e => e
def outList : Out → List Nd
  | .ok l => l
  | .bad _ _ => []
def MakesO (w : World) (o : Out) (e : Ending) (w' : World) : Prop :=
  ∃ A n c, e = .returned (.tuple #[.slice A n c, .int .i64 (outAt o), .int .i64 (outErr o)]) ∧ NdOn w' A n (outList o) ∧ Below w.heap.size w w'
/-! What stays while blocks that are no cells turn. -/
theorem ins_kept {W W' : World} {row : Option Nat} {A : Option Addr} {n : Nat} {l : List S} (h : InS W 0 A n l) (hg : W.grownBy W' row) (hr : ∀ r, row = some r → ∃ o : Obj, W.heap[r]? = some o ∧ o.isCells = false) : InS W' 0 A n l := by
  have key : ∀ ad, A = some ad → 0 < n → ad.block < W.heap.size ∧ some ad.block ≠ row := by
    intro ad hA hn
    obtain ⟨ad', hA', hlt, _⟩ := h.1.2 hn
    rw [hA] at hA'
    injection hA' with hA'
    subst hA'
    refine ⟨hlt, fun e => ?_⟩
    rcases h.2 ad hA hn with h1 | ⟨cur, m, h1⟩
    · omega
    · obtain ⟨o, ho, hc⟩ := hr _ e.symm
      rw [h1] at ho
      injection ho with ho
      subst ho
      cases hc
  refine ⟨⟨h.1.1, fun hn => ?_⟩, fun ad hA hn => ?_⟩
  · obtain ⟨ad, hA, hlt, hc⟩ := h.1.2 hn
    have hk := key ad hA hn
    refine ⟨ad, hA, Nat.lt_of_lt_of_le hlt hg.size, fun i s hs => ?_⟩
    obtain ⟨c1, c2⟩ := hc i s hs
    have hb := hg.block _ hk.1 hk.2
    constructor
    · exact (World.cell?_of_block (by rw [block_of_add]; exact hb)).trans c1
    · exact (World.cell?_of_block (by simp only [block_of_add]; exact hb)).trans c2
  · have hk := key ad hA hn
    rcases h.2 ad hA hn with h1 | ⟨cur, m, h1⟩
    · exact .inl h1
    · exact .inr ⟨cur, m, (hg.block _ hk.1 hk.2).trans h1⟩
/-- A row of needs whose sets all lie in rows of spans. -/
def NdsR (w : World) (B : Nat) (v : Value) (n : Nat) (l : List Nd) : Prop := ∃ rs, w.ownsRow B 33 2 v n (rcs rs) ∧ AllIn w 0 rs l
theorem ndsR_kept {W W' : World} {row : Option Nat} {B n : Nat} {v : Value} {l : List Nd} (h : NdsR W B v n l) (hg : W.grownBy W' row) (hr : ∀ r, row = some r → ∃ o : Obj, W.heap[r]? = some o ∧ o.isCells = false) : NdsR W' B v n l := by
  obtain ⟨rs, h1, h2⟩ := h
  refine ⟨rs, h1.kept hg ?_, h2.mono fun _ _ _ hs => ins_kept hs hg hr⟩
  rcases h1.2 with ⟨rfl, _⟩ | ⟨g, cap, cur, rfl, _, hgb, _⟩
  · exact .inl rfl
  · refine .inr fun e' => ?_
    obtain ⟨o, ho, hc⟩ := hr g (by simpa [Value.ownBlock] using e'.symm)
    rw [hgb] at ho; cases ho; cases hc
theorem ndsR_told {w : World} {B n : Nat} {v : Value} {l : List Nd} (h : NdsR w B v n l) : ∃ A c, v = .slice A n c ∧ NdOn w A n l := by
  obtain ⟨rs, h1, h2⟩ := h
  obtain ⟨A, c, rfl, _, _, hr⟩ := own_form h1
  exact ⟨A, c, rfl, rs, hr, h2.1, fun i r q hr hq => by
    obtain ⟨e1, A, n, c, e2, hs⟩ := h2.2 i r q hr hq
    exact ⟨e1, A, n, c, e2, hs.1⟩⟩
theorem keeps_below {B : Nat} {W W' : World} (h : Below W.heap.size W W') : KeepsFrom B W W' := ⟨h.size, fun k o _ hk _ => (h.block k (Array.getElem?_eq_some_iff.1 hk).1).trans hk⟩
theorem keeps_row {B base size n : Nat} {e : TypeId} {v : Value} {xs : List Value} {W W' : World} (h : W.ownsRow base e size v n xs) (hg : W.grownBy W' v.ownBlock) : KeepsFrom B W W' :=
  ⟨hg.size, fun k o _ hk hc => (hg.block k (Array.getElem?_eq_some_iff.1 hk).1 (fun e' => by
    rcases h.2 with ⟨rfl, _⟩ | ⟨g, cap, cur, rfl, _, hgb, _⟩
    · cases e'
    · simp only [Value.ownBlock, Option.some.injEq] at e'
      subst e'
      rw [hgb] at hk; cases hk; cases hc)).trans hk⟩
theorem readP_err {t : List UInt8} {a : ByteArray} {p e : Int} (h : readP t a = .bad p e) : e ≠ 0 := by
  unfold readP at h
  split at h
  · injection h with _ h
    subst h
    decide
  · split at h
    · cases h
    · rename_i hne
      injection h with _ h
      subst h
      exact hne
theorem cells_need (X : World) (nm : ByteArray) (A : Option Addr) (n c : Nat) (T : TypeId) : ∀ (j : Nat) u, (rcs [(nm, .slice A n c)])[j]? = some u → (X.alloc (.cells #[.string nm, .slice A n c] T)).cell? ((⟨X.heap.size, 0, none⟩ : Addr).add j) = some u := by
  obtain ⟨ad, e, _, h⟩ := (reads_need X nm A n c T _ rfl).2 (by omega)
  injection e with e
  subst e
  exact h
theorem ins_box {W : World} {b : Nat} {t : TypeId} {u x : Value} {A : Option Addr} {n : Nat} {l : List S} (h : InS W 0 A n l) (hb : Boxed W b t u) (ht : t ≠ 47) : InS (W.setCell ⟨b, 0, none⟩ x) 0 A n l := by
  have hg := grownBy_setCell' W b x
  have key : ∀ ad, A = some ad → 0 < n → ad.block < W.heap.size ∧ some ad.block ≠ some b := by
    intro ad hA hn
    obtain ⟨ad', hA', hlt, _⟩ := h.1.2 hn
    rw [hA] at hA'
    injection hA' with hA'
    subst hA'
    refine ⟨hlt, fun e => ?_⟩
    injection e with e
    rcases h.2 ad hA hn with h1 | ⟨cur, m, h1⟩
    · omega
    · rw [e, show W.heap[b]? = _ from hb] at h1
      injection h1 with h1
      injection h1 with _ h1 _
      exact ht h1
  refine ⟨⟨h.1.1, fun hn => ?_⟩, fun ad hA hn => ?_⟩
  · obtain ⟨ad, hA, hlt, hc⟩ := h.1.2 hn
    have hk := key ad hA hn
    refine ⟨ad, hA, Nat.lt_of_lt_of_le hlt hg.size, fun i s hs => ?_⟩
    obtain ⟨c1, c2⟩ := hc i s hs
    have hb := hg.block _ hk.1 hk.2
    constructor
    · exact (World.cell?_of_block (by rw [block_of_add]; exact hb)).trans c1
    · exact (World.cell?_of_block (by simp only [block_of_add]; exact hb)).trans c2
  · have hk := key ad hA hn
    rcases h.2 ad hA hn with h1 | ⟨cur, m, h1⟩
    · exact .inl h1
    · exact .inr ⟨cur, m, (hg.block _ hk.1 hk.2).trans h1⟩
theorem ndsR_box {W : World} {b B n : Nat} {t : TypeId} {u x v : Value} {l : List Nd} (h : NdsR W B v n l) (hb : Boxed W b t u) (ht : t ≠ 47) (hlt : b < B) : NdsR (W.setCell ⟨b, 0, none⟩ x) B v n l := by
  obtain ⟨rs, h1, h2⟩ := h
  refine ⟨rs, h1.kept (grownBy_setCell' W b x) ?_, h2.mono fun _ _ _ hs => ins_box hs hb ht⟩
  rcases hv : v.ownBlock with _ | g
  · exact .inl rfl
  · right
    intro e
    injection e with e
    have := (h1.lt g hv).1
    omega
set_option maxRecDepth 100000 in
set_option maxHeartbeats 4000000 in
theorem readAll_any (s : List UInt8) (w : World) (hs : s.length ≤ 2000) (hb : allB s = false) (hT : Tabs w) :
    Calls Tryz.prog 17 #[.string (str s)] w (MakesO w (outOf (pcsOf 0 s) [])) := by
  unfold MakesO
  obtain ⟨O, hO0⟩ : ∃ O, O = outOf (pcsOf 0 s) [] := ⟨_, rfl⟩
  rw [← hO0]
  have HO := hide hO0
  clear hO0
  obtain ⟨i0, hi0, hz0, hz1, hz2⟩ := info_parts info_need
  have HBl := hide (fun wx => blanks_any s wx (by omega))
  rw [hb] at HBl
  unfold Tells at HBl
  have hsz := str_size s
  have HT := hide hT
  have hs2 : ¬ (2000 : Int) < (s.length : Int) := by omega
  have hpc := hide (fun wx => pieces_any (str s) wx)
  clear hb hT
  refine (callsIn_wide (n := 9)).1 ?_
  refine callsIn_of_wp_marks Tryz.func17 rfl trivial ?_ rfl
  simp only [Tryz.ntmps17, List.size_toArray, List.length_cons, List.length_nil, Nat.reduceAdd, Nat.reduceSub, Array.replicate_succ, Array.replicate_zero, List.push_toArray, List.append_toArray, List.nil_append, List.cons_append]
  gi_wp2_with (first
    | (refine ⟨trivial, ?_⟩; gi_at_call 34; refine (callsIn_wide.2 (HBl.out _)).mono ?_; rintro e w1 ⟨rfl, hb1⟩)
    | (refine ⟨trivial, ?_⟩; gi_at_call 35; refine (callsIn_wide.2 (hpc.out _)).mono ?_; rintro e w2 ⟨rfl, rfl⟩))
  obtain ⟨k, hk⟩ : ∃ k, k = w1.heap.size := ⟨_, rfl⟩
  obtain ⟨W0, hW0⟩ : ∃ W0, W0 = (((w1.alloc (.cells #[.slice none 0 0] 22)).alloc (.cells #[.string ⟨#[]⟩] 9)).alloc (.cells #[.string (str s)] 9)) := ⟨_, rfl⟩
  have hsz0 : W0.heap.size = k + 3 := by rw [hW0, hk]; simp
  have hh1 := hb1.size
  simp only [World.size_alloc] at hh1
  have hwa : Below w.heap.size w (((w.alloc (.cells #[.slice none 0 0] 22)).alloc (.cells #[.int .i64 0] 3)).alloc (.cells #[.int .i64 0] 36)) := (((Below.refl _ _).alloc (Nat.le_refl _) _).alloc (by simp) _).alloc (by simp; omega) _
  have hB0 : Below w.heap.size w W0 := by
    rw [hW0]
    exact (((hwa.trans (hb1.mono (by simp; omega))).alloc (by omega) _).alloc (by simp; omega) _).alloc (by simp; omega) _
  have rA : Boxed (((w.alloc (.cells #[.slice none 0 0] 22)).alloc (.cells #[.int .i64 0] 3)).alloc (.cells #[.int .i64 0] 36)) w.heap.size 22 (.slice none 0 0) := ((Boxed.new w _ _).alloc _).alloc _
  have rB : Boxed (((w.alloc (.cells #[.slice none 0 0] 22)).alloc (.cells #[.int .i64 0] 3)).alloc (.cells #[.int .i64 0] 36)) (w.heap.size + 1) 3 (.int .i64 0) := by
    have := (Boxed.new (w.alloc (.cells #[.slice none 0 0] 22)) 3 (.int .i64 0)).alloc (.cells #[.int .i64 0] 36)
    rwa [World.size_alloc] at this
  have rC : Boxed (((w.alloc (.cells #[.slice none 0 0] 22)).alloc (.cells #[.int .i64 0] 3)).alloc (.cells #[.int .i64 0] 36)) (w.heap.size + 2) 36 (.int .i64 0) := by
    have := (Boxed.new ((w.alloc (.cells #[.slice none 0 0] 22)).alloc (.cells #[.int .i64 0] 3)) 36 (.int .i64 0))
    rwa [World.size_alloc, World.size_alloc] at this
  have up : ∀ {b t v}, Boxed (((w.alloc (.cells #[.slice none 0 0] 22)).alloc (.cells #[.int .i64 0] 3)).alloc (.cells #[.int .i64 0] 36)) b t v → Boxed W0 b t v := fun hbx => by
    rw [hW0]
    have h1 : Boxed w1 _ _ _ := (hb1.block _ hbx.lt).trans hbx
    exact ((h1.alloc _).alloc _).alloc _
  have r0 := up rA
  have r1 := up rB
  have r2 := up rC
  have bL : Boxed W0 k 22 (.slice none 0 0) := by rw [hW0, hk]; exact ((Boxed.new w1 _ _).alloc _).alloc _
  have bA : Boxed W0 (k + 1) 9 (.string ⟨#[]⟩) := by
    rw [hW0, hk]
    have := (Boxed.new (w1.alloc (.cells #[.slice none 0 0] 22)) 9 (.string ⟨#[]⟩)).alloc (.cells #[.string (str s)] 9)
    rwa [World.size_alloc] at this
  have bS : Boxed W0 (k + 2) 9 (.string (str s)) := by
    rw [hW0, hk]
    have := (Boxed.new ((w1.alloc (.cells #[.slice none 0 0] 22)).alloc (.cells #[.string ⟨#[]⟩] 9)) 9 (.string (str s)))
    rwa [World.size_alloc, World.size_alloc] at this
  have hkh : w.heap.size + 3 ≤ k := by omega
  rw [← hW0, ← hk]
  clear rA rB rC up hwa hh1 hb1 hW0 hk HBl hpc
  have hlast0 : lastN [] = ⟨#[]⟩ := rfl
  refine wpIn_rangeFunc_ownG rfl (by omega) (gf := 49) (lb := #[.pointer (some ⟨k + 1 + 1, 0, none⟩)]) rfl trivial (enters_of Tryz.func49 (by kernel_rfl) rfl)
    (pieces_stops s hs w.heap.size (k + 1 + 1) _ (by omega) W0 bS.lt bS.cell) belowK_t (belowK_b (by omega)) (Below.refl _ _) (fun _ => rfl)
    (fun pre W => (∃ m v, runsF [] pre = some m ∧ Boxed W k 22 v ∧ Boxed W (k + 1) 9 (.string (lastN m)) ∧ Boxed W w.heap.size 22 (.slice none 0 0) ∧ Boxed W (w.heap.size + 1) 3 (.int .i64 0) ∧ Boxed W (w.heap.size + 2) 36 (.int .i64 0) ∧ NdsR W W0.heap.size v m.length m) ∧ Below w.heap.size w W)
    (fun c pre W => (∃ pre' x m p e, c = .ret ∧ pre = pre' ++ [x] ∧ runsF [] pre' = some m ∧ readP x.1.2 (lastN m) = .bad p e ∧ Boxed W w.heap.size 22 (.slice none 0 0) ∧ Boxed W (w.heap.size + 1) 3 (.int .i64 (wrap64 ((x.1.1 : Int) + p))) ∧ Boxed W (w.heap.size + 2) 36 (.int .i64 e)) ∧ Below w.heap.size w W)
    (fun pre X Y row ⟨⟨m, v, g1, g2, g3, g4, g5, g6, g7⟩, hB⟩ hg hr => ⟨⟨m, v, g1, g2.kept hg (fun e => by have := (hr _ e.symm).1; omega), g3.kept hg (fun e => by have := (hr _ e.symm).1; omega), g4.kept hg (fun e => by have := (hr _ e.symm).1; omega), g5.kept hg (fun e => by have := (hr _ e.symm).1; omega), g6.kept hg (fun e => by have := (hr _ e.symm).1; omega), ndsR_kept g7 hg (fun r e => (hr r e).2)⟩, hB.grown hg hB.size (fun r e => by have := (hr r e).1; omega)⟩)
    (fun c pre X Y row ⟨⟨pre', x, m, p, e, g1, g2, g3, g4, g5, g6, g7⟩, hB⟩ hg hr => ⟨⟨pre', x, m, p, e, g1, g2, g3, g4, g5.kept hg (fun e => by have := (hr _ e.symm).1; omega), g6.kept hg (fun e => by have := (hr _ e.symm).1; omega), g7.kept hg (fun e => by have := (hr _ e.symm).1; omega)⟩, hB.grown hg hB.size (fun r e => by have := (hr r e).1; omega)⟩)
    ⟨⟨[], _, rfl, bL, bA, r0, r1, r2, [], World.ownsRow_nil _ _ _ _, rfl, fun i r q hr _ => by simp at hr⟩, hB0⟩
    ?a1 ?assign ?body ?done ?stop
  case assign =>
    intro l x W K hK
    unfold encP
    gi_wp2
    exact hK
  case body =>
    rintro l pre x W ⟨⟨m, v, hrun, g1, g2, g3, g4, g5, hN⟩, hB⟩ hlt
    have hml := runs_len pre [] m hrun
    simp only [List.length_nil, Nat.zero_add] at hml
    have hmb : m.length ≤ 2001 := by omega
    clear hml
    have HR := hide (readP_any x.1.2 (lastN m) W (by have := x.2.2; omega) (HT.out.below hB))
    have hx1 := x.2.1
    have hsn := hide (runs_snoc x pre [])
    obtain ⟨rs, hown, hall⟩ := hN
    have c1 := g1.cell
    have c2 := g2.cell
    have hWs := hB.size
    have hlt1 := g1.lt
    have hlt2 := g2.lt
    unfold ReadsTo at HR
    cases hr : readP x.1.2 (lastN m) with
    | ok q =>
      rw [hr] at HR
      have hS : Hid (runsF [] (pre ++ [x]) = some (m ++ [q])) := hide (by rw [hsn.out, hrun, Option.bind_some, hr])
      have e1 : rdAt (.ok q) = 0 := rfl
      have e2 : rdErr (.ok q) = 0 := rfl
      rw [e1, e2] at HR
      clear e1 e2 hr hsn hrun
      have hol := hown.lt
      gi_wp2_with (first
        | (refine ⟨trivial, ?_⟩
           gi_at_call 36
           refine (CallsIn.inRound l (callsIn_wide.2 HR.out)).mono ?_
           rintro e w5 ⟨nm, A, n, c, rfl, hq, hb5⟩
           obtain ⟨rfl, hI⟩ := hq q rfl
           clear hq
           have h5s := hb5.size
           have b1 : Boxed w5 k 22 v := (hb5.block k hlt1).trans g1
           have b2 : Boxed w5 (k + 1) 9 (.string (lastN m)) := (hb5.block (k + 1) hlt2).trans g2
           have c1' : ∀ o, (w5.alloc o).cell? ⟨k, 0, none⟩ = some v := fun o => (b1.alloc o).cell
           have hcel := cells_need (w5.alloc (.cells #[.string q.1, .slice A n c] 33)) q.1 A n c 33
           have hbA : Below W.heap.size W ((w5.alloc (.cells #[.string q.1, .slice A n c] 33)).alloc (.cells #[.string q.1, .slice A n c] 33)) := (hb5.alloc h5s _).alloc (by simp; omega) _
           rw [World.size_alloc] at hcel)
        | (gi_at_builtin
           refine wpListIn_append_own _ rfl (.tmp 36) (.tmp 38) 22 rfl W0.heap.size 33 i0 _ 2 40 Tryz.underlying22 hi0 hz0 hz1 hz2 rfl (by decide) _ m.length (rcs rs) rfl (own_below hown hbA) ⟨w5.heap.size + 1, 0, none⟩ 1 1 (rcs [(q.1, .slice A n c)]) rfl rfl hcel (one_need _ _ _ _) (by unfold maxLen; omega) (by omega) (by simp; omega) ?_
           intro v' w6 hown6 hg6 _
           obtain ⟨g', cap', rfl⟩ := ownsRow_succ hown6
           have b1' := ((b1.alloc (.cells #[.string q.1, .slice A n c] 33)).alloc (.cells #[.string q.1, .slice A n c] 33)).kept hg6 (fun e => by have := (hol _ e.symm).1; omega)
           have b2' := ((b2.alloc (.cells #[.string q.1, .slice A n c] 33)).alloc (.cells #[.string q.1, .slice A n c] 33)).kept hg6 (fun e => by have := (hol _ e.symm).1; omega)
           have b9 := ((Blk.new w5 33 #[.string q.1, .slice A n c]).alloc (.cells #[.string q.1, .slice A n c] 33)).grown hg6 (fun e => by have := (hol _ e.symm).2; omega)
           have k1 := b1'.cell
           have f1 := b1'.frozen
           have b2s := b2'.other (show k + 1 ≠ k by omega) (.slice (some ⟨g', 0, none⟩) (m.length + 1) cap')
           have k2 := b2s.cell
           have f2 := b2s.frozen
           have k9 := (b9.far (p := ⟨k, 0, none⟩) (show w5.heap.size ≠ k by omega) (.slice (some ⟨g', 0, none⟩) (m.length + 1) cap')).cell 0))
      have K12 := keeps_below (B := W0.heap.size) hbA
      have K3 := keeps_row (B := W0.heap.size) (own_below hown hbA) hg6
      have hBW0 : Below w.heap.size W w6 := (hbA.mono hWs).grown hg6 (by simp; omega) (fun r e => by have := (hol r e).1; omega)
      have hBW : ∀ u u', Below w.heap.size W ((w6.setCell ⟨k, 0, none⟩ u).setCell ⟨k + 1, 0, none⟩ u') := fun u u' => (hBW0.setCell (p := ⟨k, 0, none⟩) (show w.heap.size ≤ k by omega) u).setCell (p := ⟨k + 1, 0, none⟩) (show w.heap.size ≤ k + 1 by omega) u'
      have up : ∀ {b t u} (z z' : Value), Boxed W b t u → b < k → Boxed ((w6.setCell ⟨k, 0, none⟩ z).setCell ⟨k + 1, 0, none⟩ z') b t u := fun {b t u} z z' hbx hbk => by
        have h1 : Boxed _ b t u := (hbA.block b hbx.lt).trans hbx
        have h2 := h1.kept hg6 (fun e => by have := (hol _ e.symm).1; omega)
        exact (h2.other (show b ≠ k by omega) z).other (show b ≠ k + 1 by omega) z'
      have hN6 : NdsR w6 W0.heap.size (.slice (some ⟨g', 0, none⟩) (m.length + 1) cap') (m ++ [q]).length (m ++ [q]) := by
        refine ⟨rs ++ [(q.1, .slice A n c)], by rw [rcs_append]; simpa using hown6, ?_⟩
        have hownA := own_less (own_below hown hbA) (Nat.zero_le _)
        exact ((hall.mono fun _ _ _ hs => hs.below hbA).append (AllIn.one (hI.below (((Below.refl w5.heap.size w5).alloc (Nat.le_refl _) _).alloc (by simp) _)))).mono fun _ _ _ hs => hs.grown hownA hg6
      have hN7 := ndsR_box (x := .string q.1) (ndsR_box (x := .slice (some ⟨g', 0, none⟩) (m.length + 1) cap') hN6 b1' (by decide) (by omega)) b2s (by decide) (by omega)
      exact ⟨((K12.trans K3).trans ((KeepsOthers.setCell _ _ _).from _)).trans ((KeepsOthers.setCell _ _ _).from _), hBW _ _, ⟨m ++ [q], _, hS.out, (b1'.set _).other (show k ≠ k + 1 by omega) _, by rw [lastN_snoc]; exact b2s.set _, up _ _ g3 (by omega), up _ _ g4 (by omega), up _ _ g5 (by omega), hN7⟩, hB.trans (hBW _ _)⟩
    | bad p e =>
      rw [hr] at HR
      have hne := readP_err hr
      have e1 : rdAt (.bad p e) = p := rfl
      have e2 : rdErr (.bad p e) = e := rfl
      rw [e1, e2] at HR
      have h1 : (e == 0) = false := beq_eq_false_iff_ne.2 hne
      have h2 : (e != 0) = true := by rw [bne, h1]; rfl
      have Hr := hide hr
      have Hrun := hide hrun
      clear e1 e2 hr hsn hrun hne
      gi_wp2_with (refine ⟨trivial, ?_⟩
                   gi_at_call 36
                   refine (CallsIn.inRound l (callsIn_wide.2 HR.out)).mono ?_
                   rintro e' w5 ⟨nm, A, n, c, rfl, -, hb5⟩
                   have h5s := hb5.size
                   have a3 : ∀ o, Boxed (w5.alloc o) w.heap.size 22 (.slice none 0 0) := fun o => Boxed.alloc ((hb5.block _ g3.lt).trans g3) o
                   have a4 : ∀ o, Boxed (w5.alloc o) (w.heap.size + 1) 3 (.int .i64 0) := fun o => Boxed.alloc ((hb5.block _ g4.lt).trans g4) o
                   have a5 : ∀ o, Boxed (w5.alloc o) (w.heap.size + 2) 36 (.int .i64 0) := fun o => Boxed.alloc ((hb5.block _ g5.lt).trans g5) o
                   have k3 := fun o => (a3 o).cell
                   have f3 := fun o => (a3 o).frozen
                   have k4 := fun o u => ((a4 o).other (show w.heap.size + 1 ≠ w.heap.size by omega) u).cell
                   have f4 := fun o u => ((a4 o).other (show w.heap.size + 1 ≠ w.heap.size by omega) u).frozen
                   have k5 := fun o u u' => (((a5 o).other (show w.heap.size + 2 ≠ w.heap.size by omega) u).other (show w.heap.size + 2 ≠ w.heap.size + 1 by omega) u').cell
                   have f5 := fun o u u' => (((a5 o).other (show w.heap.size + 2 ≠ w.heap.size by omega) u).other (show w.heap.size + 2 ≠ w.heap.size + 1 by omega) u').frozen)
      have hbA := hb5.alloc h5s (.cells #[.string nm, .slice A n c] 33)
      have K1 := (((keeps_below (B := W0.heap.size) hbA).trans ((KeepsOthers.setCell _ ⟨w.heap.size, 0, none⟩ (.slice none 0 0)).from _)).trans ((KeepsOthers.setCell _ ⟨w.heap.size + 1, 0, none⟩ (.int .i64 (wrap64 ((x.1.1 : Int) + p)))).from _)).trans ((KeepsOthers.setCell _ ⟨w.heap.size + 2, 0, none⟩ (.int .i64 e)).from _)
      have hBW := (((hbA.mono hWs).setCell (p := ⟨w.heap.size, 0, none⟩) (Nat.le_refl _) (.slice none 0 0)).setCell (p := ⟨w.heap.size + 1, 0, none⟩) (Nat.le_add_right _ 1) (.int .i64 (wrap64 ((x.1.1 : Int) + p)))).setCell (p := ⟨w.heap.size + 2, 0, none⟩) (Nat.le_add_right _ 2) (.int .i64 e)
      exact ⟨K1, ⟨pre, x, m, p, e, rfl, rfl, Hrun.out, Hr.out, (((a3 _).set _).other (show w.heap.size ≠ w.heap.size + 1 by omega) _).other (show w.heap.size ≠ w.heap.size + 2 by omega) _, (((a4 _).other (show w.heap.size + 1 ≠ w.heap.size by omega) _).set _).other (show w.heap.size + 1 ≠ w.heap.size + 2 by omega) _, (((a5 _).other (show w.heap.size + 2 ≠ w.heap.size by omega) _).other (show w.heap.size + 2 ≠ w.heap.size + 1 by omega) _).set _⟩, hB.trans hBW⟩
  case done =>
    rintro D xs W hD hS ⟨⟨m, v, hrun, g1, g2, g3, g4, g5, hN⟩, hB⟩ hK
    have hO := runs_out [] xs [] m hrun
    rw [List.append_nil, hS] at hO
    have hO2 : outOf [] m = if 6 < m.length then Out.bad 0 4 else Out.ok m := rfl
    rw [hO2, ← HO.out] at hO
    obtain ⟨Av, cv, rfl, _⟩ := ndsR_told hN
    have k1 := g1.cell
    have k3 := g3.cell
    have f3 := g3.frozen
    have k4 := fun u => (g4.other (show w.heap.size + 1 ≠ w.heap.size by omega) u).cell
    have f4 := fun u => (g4.other (show w.heap.size + 1 ≠ w.heap.size by omega) u).frozen
    have k5 := fun u u' => ((g5.other (show w.heap.size + 2 ≠ w.heap.size by omega) u).other (show w.heap.size + 2 ≠ w.heap.size + 1 by omega) u').cell
    have f5 := fun u u' => ((g5.other (show w.heap.size + 2 ≠ w.heap.size by omega) u).other (show w.heap.size + 2 ≠ w.heap.size + 1 by omega) u').frozen
    have fin : ∀ (x y z : Value), let W7 := ((W.setCell ⟨w.heap.size, 0, none⟩ x).setCell ⟨w.heap.size + 1, 0, none⟩ y).setCell ⟨w.heap.size + 2, 0, none⟩ z
        W7.heap[D]? = some (.deferred (some [])) ∧ (W7.putObj D (.deferred none)).cell? ⟨w.heap.size, 0, none⟩ = some x ∧ (W7.putObj D (.deferred none)).cell? ⟨w.heap.size + 1, 0, none⟩ = some y ∧ (W7.putObj D (.deferred none)).cell? ⟨w.heap.size + 2, 0, none⟩ = some z ∧ NdsR (W7.putObj D (.deferred none)) W0.heap.size (.slice Av m.length cv) m.length m ∧ Below w.heap.size w (W7.putObj D (.deferred none)) := by
      intro x y z W7
      have hK' : W7.heap[D]? = some (.deferred (some [])) := (((KeepsOthers.setCell W ⟨w.heap.size, 0, none⟩ x).trans (KeepsOthers.setCell _ ⟨w.heap.size + 1, 0, none⟩ y)).trans (KeepsOthers.setCell _ ⟨w.heap.size + 2, 0, none⟩ z)).same D _ hK rfl
      have d3 : Boxed W7 w.heap.size 22 x := ((g3.set x).other (show w.heap.size ≠ w.heap.size + 1 by omega) y).other (show w.heap.size ≠ w.heap.size + 2 by omega) z
      have d4 : Boxed W7 (w.heap.size + 1) 3 y := ((g4.other (show w.heap.size + 1 ≠ w.heap.size by omega) x).set y).other (show w.heap.size + 1 ≠ w.heap.size + 2 by omega) z
      have d5 : Boxed W7 (w.heap.size + 2) 36 z := ((g5.other (show w.heap.size + 2 ≠ w.heap.size by omega) x).other (show w.heap.size + 2 ≠ w.heap.size + 1 by omega) y).set z
      have hr : ∀ r, some D = some r → ∃ o : Obj, W7.heap[r]? = some o ∧ o.isCells = false := fun r e => by cases e; exact ⟨_, hK', rfl⟩
      refine ⟨hK', cell_kept d3.cell (grownBy_putObj' _ D _) hr, cell_kept d4.cell (grownBy_putObj' _ D _) hr, cell_kept d5.cell (grownBy_putObj' _ D _) hr, ?_, ?_⟩
      · refine ndsR_kept ?_ (grownBy_putObj' _ D _) hr
        exact ndsR_box (ndsR_box (ndsR_box hN g3 (by decide) (by omega)) (g4.other (show w.heap.size + 1 ≠ w.heap.size by omega) x) (by decide) (by omega)) ((g5.other (show w.heap.size + 2 ≠ w.heap.size by omega) x).other (show w.heap.size + 2 ≠ w.heap.size + 1 by omega) y) (by decide) (by omega)
      · exact (((hB.setCell (p := ⟨w.heap.size, 0, none⟩) (Nat.le_refl _) x).setCell (p := ⟨w.heap.size + 1, 0, none⟩) (Nat.le_add_right _ 1) y).setCell (p := ⟨w.heap.size + 2, 0, none⟩) (Nat.le_add_right _ 2) z).trans (belowK_b (w := W0) hB0.size W7 D _ _ hD hK' rfl rfl)
    have Fin := hide fin
    clear fin g1 g2 g3 g4 g5 hN hO2 hrun
    by_cases h6 : 6 < m.length
    · rw [if_pos h6] at hO
      have HO2 := hide hO
      clear hO
      have h6z : (6 : Int) < (m.length : Int) := by omega
      gi_wp2
      obtain ⟨hK', c0, c1, c2, hNd, hBd⟩ := Fin.out (.slice none 0 0) (.int .i64 0) (.int .i64 4)
      refine ⟨by simp, .inl ⟨_, _, rfl, run_takeDeferred hK', ?_⟩⟩
      rw [HO2.out]
      refine ⟨.tuple #[.slice none 0 0, .int .i64 0, .int .i64 4], ?_, none, 0, ⟨0, rfl⟩, NdIn.nil _ _ _, hBd⟩
      simp [results, Tryz.f17, go_sem, c0, c1, c2]
    · rw [if_neg h6] at hO
      have HO2 := hide hO
      clear hO
      have h6z : ¬ (6 : Int) < (m.length : Int) := by omega
      gi_wp2
      obtain ⟨hK', c0, c1, c2, hNd, hBd⟩ := Fin.out (.slice Av m.length cv) (.int .i64 0) (.int .i64 0)
      refine ⟨by simp, .inl ⟨_, _, rfl, run_takeDeferred hK', ?_⟩⟩
      obtain ⟨A9, c9, e9, hN9⟩ := ndsR_told hNd
      injection e9 with e9 _ e10
      subst e9 e10
      rw [HO2.out]
      refine ⟨.tuple #[.slice Av m.length cv, .int .i64 0, .int .i64 0], ?_, Av, m.length, ⟨cv, rfl⟩, hN9, hBd⟩
      simp [results, Tryz.f17, go_sem, c0, c1, c2]
  case stop =>
    rintro D c pre W hD hpre ⟨⟨pre', x, m, p, e, rfl, rfl, hrun, hr, g3, g4, g5⟩, hB⟩ hK
    have hO : O = Out.bad (wrap64 ((x.1.1 : Int) + p)) e := by
      rw [HO.out]
      obtain ⟨t, ht⟩ := hpre
      have := runs_out (x.1 :: t) pre' [] m hrun
      rw [← ht, List.map_append, List.map_cons, List.map_nil, List.append_assoc, List.singleton_append, this]
      simp only [outOf, hr]
    have HO2 := hide hO
    have hr : ∀ r, some D = some r → ∃ o : Obj, W.heap[r]? = some o ∧ o.isCells = false := fun r e => by cases e; exact ⟨_, hK, rfl⟩
    have c0 := cell_kept g3.cell (grownBy_putObj' _ D (.deferred none)) hr
    have c1 := cell_kept g4.cell (grownBy_putObj' _ D (.deferred none)) hr
    have c2 := cell_kept g5.cell (grownBy_putObj' _ D (.deferred none)) hr
    have hBd := hB.trans (belowK_b (w := W0) hB0.size W D (.deferred (some [])) (.deferred none) hD hK rfl rfl)
    clear g3 g4 g5 hB hpre hO
    gi_wp2
    refine ⟨by simp, .inl ⟨_, _, rfl, run_takeDeferred hK, ?_⟩⟩
    rw [HO2.out]
    refine ⟨.tuple #[.slice none 0 0, .int .i64 (wrap64 ((x.1.1 : Int) + p)), .int .i64 e], ?_, none, 0, 0, rfl, NdIn.nil _ _ _, hBd⟩
    simp [results, Tryz.f17, go_sem, c0, c1, c2]
end Go.Proofs.YtmcpdcfeappokaaGreatDoor.Need
