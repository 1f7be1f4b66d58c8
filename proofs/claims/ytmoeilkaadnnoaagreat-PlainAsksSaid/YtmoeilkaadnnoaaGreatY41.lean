/-
  Some texts of this claim, one behind the other: PlainOpen, PlainWait. What each proves, and its condition, stands at its head.
-/
import Derived.Test.YtmoeilkaadnnoaaGreatY40
import Derived.Test.YtmoeilkaadnnoaaGreatChecked
import Derived.Shelf.Spec.SearchS
import Derived.Shelf.Spec.SlicesInsert
import Derived.Shelf.Spec.SlicesInsertGrow
import Derived.Shelf.Slices.Cells
import Derived.Deep.RegionHeld3
/-
  The library's search, insertion and deletion among texts that rise, laid at this program: on a row of the search's own. Condition: no more than 1,000,000 texts.
-/
namespace Go.Proofs.YtmoeilkaadnnoaaGreat.Plain
open Go Go.RowKit Go.Lib Go.Shelf Go.Proofs.YtmoeilkaadnnoaaGreat.Span Go.Proofs.YtmoeilkaadnnoaaGreat.Need Go.Proofs.YtmoeilkaadnnoaaGreat.Mani Go.Proofs.YtmoeilkaadnnoaaGreat.Wire Go.Proofs.YtmoeilkaadnnoaaGreat.Depot Go.Proofs.YtmoeilkaadnnoaaGreat.Index Go.Proofs.YtmoeilkaadnnoaaGreat.Reach Go.Proofs.YtmoeilkaadnnoaaGreat.Pick Go.Proofs.YtmoeilkaadnnoaaGreat.Fit
set_option linter.unusedVariables false
def renBq : Ren := ⟨fun | 26 => 96 | 33 => 120 | 34 => 121 | 38 => 132 | n => n, fun | 0 => 0 | 3 => 3 | 4 => 4 | 9 => 9 | 24 => 70 | 40 => 184 | n => n, fun n => n⟩
theorem laysBq : Lays2.n26 Tryz.prog renBq := {
  mixed := by kernel_rfl
  f26 := Tryz.func96.trans (congrArg some (by kernel_rfl))
  f33 := Tryz.func120.trans (congrArg some (by kernel_rfl))
  f34 := Tryz.func121.trans (congrArg some (by kernel_rfl))
  f38 := Tryz.func132.trans (congrArg some (by kernel_rfl))
  t0 := Tryz.underlying0
  a0 := Tryz.isAgg0
  z0 := Tryz.sizeOf0
  v0 := Tryz.zeroValue0
  t3 := Tryz.underlying3
  a3 := Tryz.isAgg3
  z3 := Tryz.sizeOf3
  v3 := Tryz.zeroValue3
  t4 := Tryz.underlying4
  a4 := Tryz.isAgg4
  z4 := Tryz.sizeOf4
  v4 := Tryz.zeroValue4
  t9 := Tryz.underlying9
  a9 := Tryz.isAgg9
  z9 := Tryz.sizeOf9
  v9 := Tryz.zeroValue9
  t24 := Tryz.underlying70
  a24 := Tryz.isAgg70
  z24 := Tryz.sizeOf70
  v24 := Tryz.zeroValue70
  t40 := Tryz.underlying184
  a40 := Tryz.isAgg184
  z40 := Tryz.sizeOf184
  v40 := Tryz.zeroValue184 }
def renIq : Ren := ⟨fun | 17 => 146 | 22 => 97 | 29 => 122 | 30 => 123 | 36 => 133 | n => n, fun | 0 => 0 | 3 => 3 | 4 => 4 | 9 => 9 | 24 => 70 | n => n, fun n => n⟩
theorem laysIq : Lays2.n22 Tryz.prog renIq := {
  mixed := by kernel_rfl
  f17 := Tryz.func146.trans (congrArg some (by kernel_rfl))
  f22 := Tryz.func97.trans (congrArg some (by kernel_rfl))
  f29 := Tryz.func122.trans (congrArg some (by kernel_rfl))
  f30 := Tryz.func123.trans (congrArg some (by kernel_rfl))
  f36 := Tryz.func133.trans (congrArg some (by kernel_rfl))
  t0 := Tryz.underlying0
  a0 := Tryz.isAgg0
  z0 := Tryz.sizeOf0
  v0 := Tryz.zeroValue0
  t3 := Tryz.underlying3
  a3 := Tryz.isAgg3
  z3 := Tryz.sizeOf3
  v3 := Tryz.zeroValue3
  t4 := Tryz.underlying4
  a4 := Tryz.isAgg4
  z4 := Tryz.sizeOf4
  v4 := Tryz.zeroValue4
  t9 := Tryz.underlying9
  a9 := Tryz.isAgg9
  z9 := Tryz.sizeOf9
  v9 := Tryz.zeroValue9
  t24 := Tryz.underlying70
  a24 := Tryz.isAgg70
  z24 := Tryz.sizeOf70
  v24 := Tryz.zeroValue70
  i9 := by kernel_rfl }
def renDq : Ren := ⟨fun | 24 => 102 | n => n, fun | 0 => 0 | 3 => 3 | 4 => 4 | 9 => 9 | 24 => 70 | n => n, fun n => n⟩
theorem laysDq : Lays2.n24 Tryz.prog renDq := {
  mixed := by kernel_rfl
  f24 := Tryz.func102.trans (congrArg some (by kernel_rfl))
  t0 := Tryz.underlying0
  a0 := Tryz.isAgg0
  z0 := Tryz.sizeOf0
  v0 := Tryz.zeroValue0
  t3 := Tryz.underlying3
  a3 := Tryz.isAgg3
  z3 := Tryz.sizeOf3
  v3 := Tryz.zeroValue3
  t4 := Tryz.underlying4
  a4 := Tryz.isAgg4
  z4 := Tryz.sizeOf4
  v4 := Tryz.zeroValue4
  t9 := Tryz.underlying9
  a9 := Tryz.isAgg9
  z9 := Tryz.sizeOf9
  v9 := Tryz.zeroValue9
  t24 := Tryz.underlying70
  a24 := Tryz.isAgg70
  z24 := Tryz.sizeOf70
  v24 := Tryz.zeroValue70
  i9 := by kernel_rfl }
def atOr (L : List ByteArray) (x : ByteArray) (j : Nat) : ByteArray := (L[j]?).getD x
theorem first_at (x : ByteArray) : ∀ (L : List ByteArray), RisesN L → (∀ t, t < atN x L → nlt (atOr L x t) x = true) ∧ ∀ t, atN x L ≤ t → nlt (atOr L x t) x = false
  | [], _ => ⟨fun t h => absurd h (Nat.not_lt_zero _), fun t _ => nlt_self x⟩
  | y :: T, h => by
    obtain ⟨h1, h2⟩ := List.pairwise_cons.1 h
    obtain ⟨k2, k3⟩ := first_at x T h2
    cases g : nlt y x with
    | true =>
      have e : atN x (y :: T) = atN x T + 1 := by unfold atN; rw [List.takeWhile_cons, if_pos g]; rfl
      rw [e]
      refine ⟨fun t ht => ?_, fun t ht => ?_⟩
      · cases t with
        | zero => exact g
        | succ t => exact k2 t (by omega)
      · cases t with
        | zero => omega
        | succ t => exact k3 t (by omega)
    | false =>
      have e : atN x (y :: T) = 0 := by unfold atN; rw [List.takeWhile_cons, if_neg (by rw [g]; simp)]; rfl
      rw [e]
      refine ⟨fun t ht => by omega, fun t _ => ?_⟩
      cases t with
      | zero => exact g
      | succ t =>
        show nlt ((T[t]?).getD x) x = false
        cases e : T[t]? with
        | none => exact nlt_self x
        | some z =>
          cases f : nlt z x with
          | false => exact f
          | true =>
            have := nlt_trans (h1 z (List.mem_of_getElem? e)) f
            rw [g] at this
            cases this
theorem search_at {L : List ByteArray} (h : RisesN L) (x : ByteArray) : Lib.bsGo (fun t => Op.bytesLess (atOr L x t).toList x.toList) L.length 0 L.length = atN x L :=
  Lib.bsGo_spec _ (atN x L) (first_at x L h).1 (first_at x L h).2 _ _ _ (by omega) (Nat.zero_le _) (atN_le _ _)
theorem bsearchO_any (L : List ByteArray) (x : ByteArray) (B : Nat) (A : Option Addr) (n c : Nat) (w : World) (h : TxRow w B (.slice A n c) L) (hr : RisesN L) (hn : n ≤ 1000000) :
    Calls Tryz.prog 96 #[.slice A n c, .string x] w fun e w' => (∃ b, e = .returned (.tuple #[.int .i64 (atN x L : Nat), .bool b])) ∧ Below w.heap.size w w' := by
  have hlen := h.len.1
  rcases Nat.eq_zero_or_pos n with rfl | hp
  · have e : L = [] := List.eq_nil_of_length_eq_zero hlen
    subst e
    refine (Any2.slices_BinarySearch_string_empty laysBq A c x w).mono ?_
    rintro e w' ⟨rfl, rfl⟩
    exact ⟨⟨false, rfl⟩, Below.refl _ _⟩
  · obtain ⟨g, off, rfl, _⟩ := h.at_ (j := 0) (x := L[0]'(by omega)) (by rw [List.getElem?_eq_getElem])
    refine (Any2.slices_BinarySearch_string laysBq g off n c (atOr L x) x w (by omega) fun j hj => ?_).mono ?_
    · obtain ⟨g', off', e', hc'⟩ := h.at_ (j := j) (x := L[j]'(by omega)) (by rw [List.getElem?_eq_getElem])
      injection e' with e'
      injection e' with e1 e2 _
      subst e1 e2
      rw [hc']
      unfold atOr
      rw [List.getElem?_eq_getElem (by omega)]
      rfl
    · rintro e w' ⟨rfl, q, rfl⟩
      have hs := search_at hr x
      rw [hlen] at hs
      rw [hs]
      exact ⟨⟨_, rfl⟩, below_drewN (Below.refl _ _) _⟩
theorem rowIs_sets {b : Nat} {t : TypeId} {n : Nat} : ∀ (vs : List Value) (o : Nat) (w : World) (f : Nat → Value), w.rowIs b t n f → (w.setCells b o vs).rowIs b t n (fun j => if o ≤ j ∧ j < o + vs.length then vs[j - o]?.getD default else f j)
  | [], o, w, f, h => h.congr fun j _ => by rw [if_neg (by simp)]
  | v :: r, o, w, f, h => by
    refine (rowIs_sets r (o + 1) _ _ (h.set o v)).congr fun j _ => ?_
    by_cases h1 : j = o
    · subst h1
      rw [if_neg (by omega), if_pos rfl, if_pos (by simp), Nat.sub_self]
      rfl
    · by_cases h2 : o + 1 ≤ j ∧ j < o + 1 + r.length
      · rw [if_pos h2, if_pos (by simp; omega), show j - o = (j - (o + 1)) + 1 by omega, List.getElem?_cons_succ]
      · rw [if_neg h2, if_neg h1, if_neg (by simp; omega)]
theorem only_sets (b : Nat) : ∀ (vs : List Value) (o : Nat) (w w0 : World), w0.grownBy w (some b) → w0.grownBy (w.setCells b o vs) (some b)
  | [], o, w, w0, h => h
  | v :: r, o, w, w0, h => only_sets b r (o + 1) _ _ (only_setCell h (.inl rfl) v)
theorem only_sets_new (b : Nat) : ∀ (vs : List Value) (o : Nat) (w w0 : World), Below w0.heap.size w0 w → w0.heap.size ≤ b → Below w0.heap.size w0 (w.setCells b o vs)
  | [], o, w, w0, h, _ => h
  | v :: r, o, w, w0, h, hb => only_sets_new b r (o + 1) _ _ (h.setCell (by exact hb) v) hb
theorem row_alloc (w : World) (c : Array Value) (t : TypeId) : (w.alloc (.cells c t)).rowIs w.heap.size t c.size (fun i => c[i]?.getD default) :=
  World.rowIs_alloc w c t _ fun i hi => by rw [Array.getElem?_eq_getElem hi]; rfl
theorem strs_one (L : List ByteArray) : ∀ v ∈ L.map Value.string, v.oneCell' = true := by
  intro v hv
  obtain ⟨x, _, rfl⟩ := List.mem_map.1 hv
  rfl
theorem ins_get (x : ByteArray) (L : List ByteArray) (j : Nat) : (insN x L)[j]? = if j < atN x L then L[j]? else if j = atN x L then some x else L[j - 1]? := by
  rw [insN_at]
  have hl := atN_le x L
  by_cases h1 : j < atN x L
  · rw [if_pos h1, List.getElem?_append_left (by rw [List.length_take]; omega), List.getElem?_take, if_pos h1]
  · rw [if_neg h1, List.getElem?_append_right (by rw [List.length_take]; omega), List.length_take, Nat.min_eq_left hl]
    by_cases h2 : j = atN x L
    · rw [if_pos h2, h2, Nat.sub_self]; rfl
    · rw [if_neg h2, show j - atN x L = (j - atN x L - 1) + 1 by omega, List.getElem?_cons_succ, List.getElem?_drop]
      congr 1
      omega
theorem insertO_any (L : List ByteArray) (x : ByteArray) (B : Nat) (A : Option Addr) (n c vb : Nat) (w : World) (h : TxRow w B (.slice A n c) L) (hn : n ≤ 1000000) (hB : B ≤ w.heap.size) (hv : Blk w vb 9 #[.string x]) (hne : ∀ k, (Value.slice A n c).ownBlock = some k → k ≠ vb) :
    Calls Tryz.prog 97 #[.slice A n c, .int .i64 (atN x L : Nat), .slice (some ⟨vb, 0, none⟩) 1 1] w fun e w' => ∃ A' n' c', e = .returned (.slice A' n' c') ∧ TxRow w' B (.slice A' n' c') (insN x L) ∧ w.grownBy w' (Value.slice A n c).ownBlock := by
  obtain ⟨hlen, hnc⟩ := h.len
  have hvc : ∀ j v, [Value.string x][j]? = some v → w.cell? ⟨vb, 0 + j, none⟩ = some v := fun j v hj => by
    cases j with
    | zero => rw [hv.cell]; exact hj
    | succ j => simp at hj
  have h1v : ∀ v ∈ [Value.string x], v.oneCell' = true := fun v hv => by rw [List.mem_singleton.1 hv]; rfl
  have hi := atN_le x L
  have hil := insN_len x L
  have zsz : ∀ m : Nat, (Builtin.zeroCells (Value.string ⟨#[]⟩).cells m).size = m := fun m => by simp [Builtin.zeroCells, Value.cells]
  have hmx : maxLen = 9223372036854775807 := by unfold maxLen; omega
  rcases h with ⟨e, rfl⟩ | ⟨g, off, cap, N, f, e1, e2, e3, e4, e5, e6, e7⟩
  · injection e with e1 e2 e3
    subst e1 e2 e3
    refine (Any2.slices_Insert_string_end_grow laysIq none 0 0 vb 0 1 1 [] [.string x] w (by omega) (by omega) (by omega) (by omega) rfl rfl (fun _ => rfl) (fun a ha => by cases ha) hvc h1v).mono ?_
    rintro e w' ⟨rfl, rfl⟩
    refine ⟨_, _, _, rfl, .inr ⟨w.heap.size, 0, _, _, _, rfl, hB, row_alloc w.drew _ _, grownCap_ge _ _ _ _, grownCap_le_maxLen _ _ _ _ (by omega), ?_, ?_⟩, only_of_below ((Below.refl _ w).drew.alloc (Nat.le_refl _) _) _⟩
    · have := grownCap_ge w (0 + 1) 0 9
      have heq : grownCap w (0 + 1) 0 (renIq.t 9) = grownCap w (0 + 1) 0 9 := rfl
      simp [zsz]
      omega
    · intro j y hy
      cases j with
      | zero =>
        injection hy with hy
        subst hy
        rw [Nat.zero_add, Array.getElem?_append_left (by simp)]
        rfl
      | succ j => simp [insN] at hy
  · injection e1 with f1 f2 f3
    subst f1 f2 f3
    clear hlen hnc
    have hgb : g < w.heap.size := e3.lt
    have hcs : ∀ j v, (L.map Value.string)[j]? = some v → w.cell? ⟨g, off + j, none⟩ = some v := fun j v hj => by
      rw [List.getElem?_map] at hj
      obtain ⟨y, hy, rfl⟩ := Option.map_eq_some_iff.1 hj
      have := (List.getElem?_eq_some_iff.1 hy).1
      rw [e3.cell (by omega), e7 j y hy]
    have hfz : ∀ j, w.frozen? ⟨g, j, none⟩ = false := fun j => e3.frozen j
    by_cases hin : atN x L < L.length
    · by_cases hroom : L.length + 1 ≤ c
      · obtain ⟨cur, hcur, hsz, _⟩ := e3
        have e3 : w.rowIs g 9 N f := ⟨cur, hcur, hsz, by assumption⟩
        have hsb : w.shape? g = some (9, cur.size) := by simp [World.shape?, hcur]
        have hsa : w.shape? vb = some (9, 1) := by simp [World.shape?, show w.heap[vb]? = _ from hv]
        refine (Any2.slices_Insert_string_shift laysIq g off L.length c (atN x L) vb 0 1 1 (L.map Value.string) [.string x] w hin (by omega) hroom (by omega) (fun e => hne g rfl e.symm) (by simp) rfl hcs (fun j hj => by rw [e3.cell (by omega)]; rfl) (fun j _ => hfz _) hvc (strs_one L) h1v _ _ _ _ hsa hsb (by omega) (hv.frozen 0) (hv.frozen 1)).mono ?_
        rintro e w' ⟨rfl, rfl⟩
        have r1 := rowIs_sets ((L.map Value.string).drop (atN x L)) (off + (atN x L + 1)) w.drew f e3.drew
        have r2 := rowIs_sets [Value.string x] (off + atN x L) _ _ r1
        refine ⟨_, _, _, rfl, .inr ⟨g, off, c, N, _, by rw [hil], e2, r2, by omega, e5, e6, fun j y hy => ?_⟩, only_sets g _ _ _ _ (only_sets g _ _ _ _ (only_drew (World.grownBy.refl w _)))⟩
        rw [ins_get] at hy
        have hjl : j ≤ L.length := by
          split at hy
          · omega
          · split at hy
            · omega
            · have := (List.getElem?_eq_some_iff.1 hy).1
              omega
        simp only [List.length_cons, List.length_nil, List.length_drop, List.length_map]
        by_cases h1 : j < atN x L
        · rw [if_pos h1] at hy
          rw [if_neg (by omega), if_neg (by omega)]
          exact e7 j y hy
        · rw [if_neg h1] at hy
          by_cases h2 : j = atN x L
          · rw [if_pos h2] at hy
            injection hy with hy
            subst h2 hy
            rw [if_pos (by omega), Nat.sub_self]
            rfl
          · rw [if_neg h2] at hy
            rw [if_neg (by omega), if_pos (by omega), List.getElem?_drop, List.getElem?_map, show atN x L + (off + j - (off + (atN x L + 1))) = j - 1 by omega, hy]
            rfl
      · refine (Any2.slices_Insert_string_grow laysIq g off L.length c (atN x L) vb 0 1 1 (L.map Value.string) [.string x] w hin (by omega) e4 (by omega) (by omega) (by simp) rfl hcs hvc (strs_one L) h1v).mono ?_
        rintro e w' ⟨rfl, rfl⟩
        have hge := grownCap_ge w (L.length + 1) c 9
        have heq : grownCap w (L.length + 1) c (renIq.t 9) = grownCap w (L.length + 1) c 9 := rfl
        have r0 := row_alloc w (((L.map Value.string).take (atN x L)).toArray ++ Builtin.zeroCells (Value.string ⟨#[]⟩).cells (L.length + 1 - atN x L) ++ Builtin.zeroCells (Value.string ⟨#[]⟩).cells (grownCap w (L.length + 1) c 9 - (L.length + 1))) 9
        have r1 := rowIs_sets [Value.string x] (atN x L) _ _ r0.drew
        have r2 := rowIs_sets ((L.map Value.string).drop (atN x L)) (atN x L + 1) _ _ r1.drew
        refine ⟨_, _, _, rfl, .inr ⟨w.heap.size, 0, _, _, _, by rw [hil], hB, r2, by omega, grownCap_le_maxLen _ _ _ _ (by omega), ?_, fun j y hy => ?_⟩, only_of_below (only_sets_new _ _ _ _ _ (only_sets_new _ _ _ _ _ ((Below.refl _ w).alloc (Nat.le_refl _) _).drew (Nat.le_refl _)).drew (Nat.le_refl _)) _⟩
        · simp [zsz]
          omega
        · rw [ins_get] at hy
          have hjl : j ≤ L.length := by
            split at hy
            · omega
            · split at hy
              · omega
              · have := (List.getElem?_eq_some_iff.1 hy).1
                omega
          simp only [List.length_cons, List.length_nil, List.length_drop, List.length_map, Nat.zero_add]
          by_cases h1 : j < atN x L
          · rw [if_pos h1] at hy
            rw [if_neg (by omega), if_neg (by omega)]
            have hlt : j < ((L.map Value.string).take (atN x L)).length := by simp; omega
            rw [Array.getElem?_append_left (by simp; omega), Array.getElem?_append_left (by simp; omega), List.getElem?_toArray, List.getElem?_take, if_pos h1, List.getElem?_map, hy]
            rfl
          · rw [if_neg h1] at hy
            by_cases h2 : j = atN x L
            · rw [if_pos h2] at hy
              injection hy with hy
              subst h2 hy
              rw [if_neg (by omega), if_pos (by omega), Nat.sub_self]
              rfl
            · rw [if_neg h2] at hy
              rw [if_pos (by omega), List.getElem?_drop, List.getElem?_map, show atN x L + (j - (atN x L + 1)) = j - 1 by omega, hy]
              rfl
    · have hia : atN x L = L.length := by omega
      rw [hia]
      have hget : ∀ j y, (insN x L)[j]? = some y → (j < L.length ∧ L[j]? = some y) ∨ (j = L.length ∧ y = x) := fun j y hy => by
        rw [ins_get, hia] at hy
        split at hy
        · rename_i hj
          exact .inl ⟨hj, hy⟩
        · split at hy
          · rename_i hj
            injection hy with hy
            exact .inr ⟨hj, hy.symm⟩
          · have := (List.getElem?_eq_some_iff.1 hy).1
            omega
      by_cases hroom : L.length + 1 ≤ c
      · refine (Any2.slices_Insert_string_end_room laysIq g off L.length c vb 0 1 1 [.string x] w (by omega) hroom (by omega) rfl (fun j hj => by rw [Nat.add_assoc, e3.cell (by omega)]; rfl) (fun j _ => hfz _) hvc h1v).mono ?_
        rintro e w' ⟨rfl, rfl⟩
        have r2 := rowIs_sets [Value.string x] (off + L.length) w f e3
        refine ⟨_, _, _, rfl, .inr ⟨g, off, c, N, _, by rw [hil], e2, r2, by omega, e5, e6, fun j y hy => ?_⟩, only_sets g _ _ _ _ (World.grownBy.refl w _)⟩
        simp only [List.length_cons, List.length_nil]
        rcases hget j y hy with ⟨h1, h2⟩ | ⟨h1, rfl⟩
        · rw [if_neg (by omega)]
          exact e7 j y h2
        · rw [if_pos (by omega), h1, Nat.sub_self]
          rfl
      · refine (Any2.slices_Insert_string_end_grow laysIq (some ⟨g, off, none⟩) L.length c vb 0 1 1 (L.map Value.string) [.string x] w (by omega) e4 (by omega) (by omega) (by simp) rfl (fun h => by cases h) (fun a ha j v hj => by
          injection ha with ha
          subst ha
          rw [Addr.add_lit]
          exact hcs j v hj) hvc h1v).mono ?_
        rintro e w' ⟨rfl, rfl⟩
        have hge := grownCap_ge w (L.length + 1) c 9
        have heq : grownCap w (L.length + 1) c (renIq.t 9) = grownCap w (L.length + 1) c 9 := rfl
        have r0 := row_alloc w.drew ((L.map Value.string ++ [Value.string x]).toArray ++ Builtin.zeroCells (Value.string ⟨#[]⟩).cells (grownCap w (L.length + 1) c 9 - (L.length + 1))) 9
        refine ⟨_, _, _, rfl, .inr ⟨w.heap.size, 0, _, _, _, by rw [hil], hB, r0, by omega, grownCap_le_maxLen _ _ _ _ (by omega), ?_, fun j y hy => ?_⟩, only_of_below ((Below.refl _ w).drew.alloc (Nat.le_refl _) _) _⟩
        · simp [zsz]
          omega
        · rw [Nat.zero_add]
          rcases hget j y hy with ⟨h1, h2⟩ | ⟨h1, rfl⟩
          · rw [Array.getElem?_append_left (by simp; omega), List.getElem?_toArray, List.getElem?_append_left (by simpa using h1), List.getElem?_map, h2]
            rfl
          · rw [Array.getElem?_append_left (by simp; omega), List.getElem?_toArray, h1, List.getElem?_append_right (by simp)]
            simp
theorem deleteO_any (L : List ByteArray) (x : ByteArray) (B : Nat) (A : Option Addr) (n c : Nat) (w : World) (h : TxRow w B (.slice A n c) L) (hr : RisesN L) (hx : x ∈ L) (hn : n ≤ 1000000) :
    Calls Tryz.prog 102 #[.slice A n c, .int .i64 (atN x L : Nat), .int .i64 ((atN x L + 1 : Nat) : Int)] w fun e w' => ∃ A' n' c', e = .returned (.slice A' n' c') ∧ TxRow w' B (.slice A' n' c') (remN x L) ∧ w.grownBy w' (Value.slice A n c).ownBlock := by
  have hmx : maxLen = 9223372036854775807 := by unfold maxLen; omega
  have hat := atN_get hr hx
  have hlt : atN x L < L.length := (List.getElem?_eq_some_iff.1 hat).1
  have hrem := remN_at hr hx
  have hrl : (remN x L).length = L.length - 1 := by rw [hrem]; simp; omega
  rcases h with ⟨e, rfl⟩ | ⟨g, off, cap, N, f, e1, e2, e3, e4, e5, e6, e7⟩
  · cases hx
  · injection e1 with f1 f2 f3
    subst f1 f2 f3
    refine (Any.slices_Delete_string_cells laysDq g off L.length c (atN x L) (atN x L + 1) (atOr L x) w e4 (by omega) (by omega) (by omega) (fun j hj => ?_) (fun j _ => e3.frozen _)).mono ?_
    · rw [e3.cell (by omega), e7 j L[j] (by simp)]
      unfold atOr
      rw [List.getElem?_eq_getElem hj]
      rfl
    · rintro e w' ⟨rfl, q, rfl⟩
      have r := rowIs_sets ((((Lib.strsOf (atOr L x) L.length).take (atN x L) ++ (Lib.strsOf (atOr L x) L.length).drop (atN x L + 1) ++ List.replicate (atN x L + 1 - atN x L) []).map encStr)) off (w.drewN q) f (e3.of_block rfl)
      refine ⟨_, _, _, rfl, .inr ⟨g, off, c, N, _, by rw [hrl, show atN x L + 1 - atN x L = 1 by omega], e2, r, by omega, e5, e6, fun j y hy => ?_⟩, only_sets g _ _ _ _ (only_drewN (World.grownBy.refl w _) q)⟩
      have hj : j < (remN x L).length := (List.getElem?_eq_some_iff.1 hy).1
      have hsl : (Lib.strsOf (atOr L x) L.length).length = L.length := Lib.strsOf_length _ _
      have hsg : ∀ i, i < L.length → (Lib.strsOf (atOr L x) L.length)[i]? = some (Mani.bytesOf (atOr L x i)) := fun i hi => by
        simp [Lib.strsOf, hi, Mani.bytesOf]
      have henc : ∀ z : ByteArray, encStr (Mani.bytesOf z) = .string z := fun z => by simp [encStr, Mani.bytesOf]
      have hyg : (if j < atN x L then L[j]? else L[j + 1]?) = some y := by
        rw [hrem] at hy
        by_cases h1 : j < atN x L
        · rw [if_pos h1]
          rw [List.getElem?_append_left (by rw [List.length_take]; omega), List.getElem?_take, if_pos h1] at hy
          exact hy
        · rw [if_neg h1]
          rw [List.getElem?_append_right (by rw [List.length_take]; omega), List.length_take, List.getElem?_drop, Nat.min_eq_left (by omega), show atN x L + 1 + (j - atN x L) = j + 1 by omega] at hy
          exact hy
      rw [if_pos ⟨by omega, by simp [hsl]; omega⟩, show off + j - off = j by omega, List.getElem?_map, List.append_assoc]
      by_cases h1 : j < atN x L
      · rw [if_pos h1] at hyg
        rw [List.getElem?_append_left (by rw [List.length_take, hsl]; omega), List.getElem?_take, if_pos h1, hsg j (by omega)]
        unfold atOr
        rw [hyg]
        exact henc y
      · rw [if_neg h1] at hyg
        rw [List.getElem?_append_right (by rw [List.length_take, hsl]; omega), List.getElem?_append_left (by rw [List.length_take, List.length_drop, hsl]; omega), List.length_take, hsl, List.getElem?_drop, Nat.min_eq_left (by omega), show atN x L + 1 + (j - atN x L) = j + 1 by omega, hsg (j + 1) (by omega)]
        unfold atOr
        rw [hyg]
        exact henc y
end Go.Proofs.YtmoeilkaadnnoaaGreat.Plain
/-
  The contract of the search's wait: a name is open again. Condition: names of at most 1,000,000,000 bytes, at most 1,000,000 open ones.
-/
namespace Go.Proofs.YtmoeilkaadnnoaaGreat.Plain
open Go Go.RowKit Go.Lib Go.Sort Go.Proofs.YtmoeilkaadnnoaaGreat.Span Go.Proofs.YtmoeilkaadnnoaaGreat.Need Go.Proofs.YtmoeilkaadnnoaaGreat.Mani Go.Proofs.YtmoeilkaadnnoaaGreat.Wire Go.Proofs.YtmoeilkaadnnoaaGreat.Depot Go.Proofs.YtmoeilkaadnnoaaGreat.Index Go.Proofs.YtmoeilkaadnnoaaGreat.Reach Go.Proofs.YtmoeilkaadnnoaaGreat.Pick Go.Proofs.YtmoeilkaadnnoaaGreat.Fit Go.Proofs.YtmoeilkaadnnoaaGreat.MapV
set_option linter.unusedVariables false
section
variable {X : List Kn} {B mr ma mv K : Nat} {vo vt : Value} {h : ByteArray → List (List S)} {vf : ByteArray → Option Int} {O : List ByteArray} {F : List Tr} {w w1 : World}
theorem ne_map_far {mr : Nat} {f : ByteArray → Option Value} {row : Option Nat} (hm : OwnTold w mr K f) (hr : ∀ k, row = some k → ∃ cur T m, w.heap[k]? = some (.cells cur T m)) : some mr ≠ row := by
  intro e
  obtain ⟨es, clock, h1⟩ := hm.block
  obtain ⟨cur, T, m, h2⟩ := hr mr e.symm
  rw [h1] at h2
  cases h2
def AskAt (w : World) (B ma K : Nat) (h : ByteArray → List (List S)) (x : ByteArray) (A : Option Addr) (c : Nat) (sv : List Value) : Prop :=
  ∃ f, OwnTold w ma K f ∧ (∀ a, f a = none → h a = []) ∧ (∀ a v, f a = some v → HistIn w B v (h a)) ∧ (∀ a b u v, a ≠ b → f a = some u → f b = some v → ∀ k, u.ownBlock = some k → v.ownBlock ≠ some k) ∧
    (f x).getD (.slice none 0 0) = .slice A (h x).length c ∧ (h x).length ≤ c ∧ c ≤ maxLen ∧ w.ownsRow B 46 1 (.slice A (h x).length c) (h x).length sv ∧ AllH w sv (h x)
theorem AskM.atX {h : ByteArray → List (List S)} (g : AskM w B ma K h) (x : ByteArray) : ∃ A c sv, AskAt w B ma K h x A c sv := by
  obtain ⟨f, g1, g2, g3, g4⟩ := g
  cases e : f x with
  | none => exact ⟨none, 0, [], f, g1, g2, g3, g4, by rw [e, g2 x e]; rfl, by rw [g2 x e]; exact Nat.le_refl _, Nat.zero_le _, by rw [g2 x e]; exact World.ownsRow_nil w B _ 1, by rw [g2 x e]; exact ⟨rfl, fun i x s hx _ => by simp at hx⟩⟩
  | some v =>
    obtain ⟨sv, g6, g7⟩ := g3 x v e
    obtain ⟨A, c, e2, hc, hm, _⟩ := own_form g6
    subst e2
    exact ⟨A, c, sv, f, g1, g2, g3, g4, by rw [e]; rfl, hc, hm, g6, g7⟩
theorem AskAt.far {h : ByteArray → List (List S)} {x : ByteArray} {A : Option Addr} {c : Nat} {sv : List Value} {row : Option Nat} (g : AskAt w B ma K h x A c sv) (hr : ∀ k, row = some k → ∃ cur T m, w.heap[k]? = some (.cells cur T m)) (h1 : FarT w 46 row) (h2 : FarT w 61 row) (hg : w.grownBy w1 row) : AskAt w1 B ma K h x A c sv := by
  obtain ⟨f, g1, g2, g3, g4, g5, g6, g7, g8, g9⟩ := g
  exact ⟨f, g1.kept hg (ne_map_far g1 hr), g2, fun a v ha => (g3 a v ha).far h1 h2 hg, g4, g5, g6, g7, own_far g8 h1 hg, g9.far h2 hg⟩
theorem AskAt.below {h : ByteArray → List (List S)} {x : ByteArray} {A : Option Addr} {c : Nat} {sv : List Value} (g : AskAt w B ma K h x A c sv) (hb : Below w.heap.size w w1) : AskAt w1 B ma K h x A c sv :=
  g.far (fun k e => by cases e) (farT_none _ _) (farT_none _ _) (only_of_below hb none)
theorem Mem.opTo (g : Mem X B mr ma mv vo vt K h vf O F w) {vo' : Value} {O' : List ByteArray} (hg : w.grownBy w1 vo.ownBlock) (ho : TxRow w1 B vo' O') : Mem X B mr ma mv vo' vt K h vf O' F w1 := by
  have hrow : ∀ k, vo.ownBlock = some k → ∃ cur T m, w.heap[k]? = some (.cells cur T m) := fun k e => by
    obtain ⟨_, cur, hc⟩ := g.op.isRow e
    exact ⟨cur, _, _, hc⟩
  have e1 : some mr ≠ vo.ownBlock := by obtain ⟨f, g1, _⟩ := g.read; exact ne_map_far g1 hrow
  have e2 : some ma ≠ vo.ownBlock := by obtain ⟨f, g1, _⟩ := g.ask; exact ne_map_far g1 hrow
  have e3 : some mv ≠ vo.ownBlock := ne_map_far g.vers hrow
  exact ⟨g.ra, g.rv, g.av, g.br, g.ba, g.bv, g.read.far e1 (g.op.farT (by decide)) (g.op.farT (by decide)) (g.op.farT (by decide)) hg, g.ask.far e2 (g.op.farT (by decide)) (g.op.farT (by decide)) hg, ho, OwnTold.kept g.vers hg e3, g.tries.far (g.op.farT (by decide)) (g.op.farT (by decide)) (g.op.farT (by decide)) (g.op.farT (by decide)) hg⟩
end
section
variable {X : List Kn} {w0 : World} {b mr ma mv : Nat} {o : Option Addr} {vo vt vo' : Value} {K : Nat} {fuel : Int} {h : ByteArray → List (List S)} {vf : ByteArray → Option Int} {O O' : List ByteArray} {F : List Tr} {w w1 : World}
def SrchM (X : List Kn) (w0 : World) (b : Nat) (o : Option Addr) (K : Nat) (fuel : Int) (h : ByteArray → List (List S)) (vf : ByteArray → Option Int) (O : List ByteArray) (F : List Tr) (vt : Value) (mr ma mv : Nat) (w : World) : Prop :=
  ∃ vo, Blk w b 73 #[.pointer o, .int .i64 fuel, .map (some mr), .map (some ma), vo, .map (some mv), vt] ∧ Mem X w0.heap.size mr ma mv vo vt K h vf O F w ∧ w0.heap.size ≤ b ∧ Below w0.heap.size w0 w
theorem SrchM.srch (g : SrchM X w0 b o K fuel h vf O F vt mr ma mv w) : Srch X w0 b o K fuel h vf O F vt w := ⟨mr, ma, mv, g⟩
theorem srch_open (hb : Blk w b 73 #[.pointer o, .int .i64 fuel, .map (some mr), .map (some ma), vo, .map (some mv), vt]) (g : Mem X w0.heap.size mr ma mv vo vt K h vf O F w) (hB : w0.heap.size ≤ b) (hw : Below w0.heap.size w0 w) (hg : w.grownBy w1 vo.ownBlock) (ho : TxRow w1 w0.heap.size vo' O') :
    Blk w1 b 73 #[.pointer o, .int .i64 fuel, .map (some mr), .map (some ma), vo, .map (some mv), vt] ∧ SrchM X w0 b o K fuel h vf O' F vt mr ma mv (w1.setCell ⟨b, 4, none⟩ vo') ∧ Runs w (w1.setCell ⟨b, 4, none⟩ vo') ∧ ∀ {B ma K h x A c sv}, AskAt w B ma K h x A c sv → AskAt (w1.setCell ⟨b, 4, none⟩ vo') B ma K h x A c sv := by
  have hb1 := hb.grown hg (g.op.farT (by decide) _ _ _ hb)
  have g1 := g.opTo hg ho
  have hst : w1.grownBy (w1.setCell ⟨b, 4, none⟩ vo') (some b) := only_setCell (p := ⟨b, 4, none⟩) (only_self w1 b) (.inl rfl) _
  have hw1 : Below w0.heap.size w0 w1 := hw.grown hg hw.size (fun r e => (g.op.isRow e).1)
  refine ⟨hb1, ⟨vo', hb1.set_ 4 vo', g1.blk hb1 (by decide) hst, hB, hw1.setCell (p := ⟨b, 4, none⟩) hB _⟩, .step (.one hg fun T hT => g.op.farT (far_of own_string hT)) hst fun T hT => farT_blk hb1 (far_of own_search hT), fun ga => (ga.far (fun k e => by
    obtain ⟨_, cur, hc⟩ := g.op.isRow e
    exact ⟨cur, _, _, hc⟩) (g.op.farT (by decide)) (g.op.farT (by decide)) hg).far (fun k e => by
    injection e with e
    subst e
    exact ⟨_, _, _, hb1⟩) (farT_blk hb1 (by decide)) (farT_blk hb1 (by decide)) hst⟩
set_option maxHeartbeats 4000000 in
set_option maxRecDepth 100000 in
theorem waitM_any (nm : ByteArray) (w : World) (g : SrchM X w0 b o K fuel h vf O F vt mr ma mv w) (hr : RisesN O) (hO : O.length ≤ 1000000) :
    Calls Tryz.prog 73 #[.pointer (some ⟨b, 0, none⟩), .string nm] w fun e w' => e = .returned (.tuple #[]) ∧ SrchM X w0 b o K fuel h vf (insN nm O) F vt mr ma mv w' ∧ Runs w w' ∧ ∀ {B ma K h x A c sv}, AskAt w B ma K h x A c sv → AskAt w' B ma K h x A c sv := by
  obtain ⟨vo, hb, hm, hBb, hbw⟩ := g
  obtain ⟨A, n, c, rfl⟩ : ∃ A n c, vo = .slice A n c := by
    rcases hm.op with ⟨e, _⟩ | ⟨g, off, cap, N, f, e, _⟩
    · exact ⟨_, _, _, e⟩
    · exact ⟨_, _, _, e⟩
  have hn : n ≤ 1000000 := by rw [← hm.op.len.1]; exact hO
  have HB := hide (bsearchO_any O nm w0.heap.size A n c w hm.op hr hn)
  have hc4 := (hb.cell 4).trans rfl
  have hb0 := hb
  have HI := hide (fun (vb : Nat) (wx : World) (h1 : TxRow wx w0.heap.size (.slice A n c) O) (h2 : w0.heap.size ≤ wx.heap.size) (h3 : Blk wx vb 9 #[.string nm]) (h4 : ∀ k, (Value.slice A n c).ownBlock = some k → k ≠ vb) => insertO_any O nm w0.heap.size A n c vb wx h1 hn h2 h3 h4)
  have Hm := hide hm
  have Hbw := hide hbw
  clear hm hbw
  go_enter Tryz.func73, Tryz.ntmps73
  go_wp2_with (first
    | (go_at_call 96
       refine HB.out.mono ?_
       rintro e w1 ⟨⟨bb, rfl⟩, hb1⟩
       have hbx := hb0.below hb1 hb0.lt
       have hc4x := (hbx.cell 4).trans (show (#[Value.pointer o, .int .i64 fuel, .map (some mr), .map (some ma), .slice A n c, .map (some mv), vt] : Array Value)[4]? = some (.slice A n c) from rfl))
    | (go_at_call 97
       have hm1 := (Hm.out.below hb1).below (alloc_bw w1 (.cells #[.string nm] 9))
       have hby := hbx.alloc (.cells #[.string nm] 9)
       refine (HI.out w1.heap.size _ hm1.op (Nat.le_trans Hbw.out.size (Nat.le_trans hb1.size (by simp))) (Blk.new w1 _ _) (fun k e e2 => ?_)).mono ?_
       · obtain ⟨_, cur, hc⟩ := (Hm.out.below hb1).op.isRow e
         have := (Array.getElem?_eq_some_iff.1 hc).1
         omega
       rintro e w3 ⟨A3, n3, c3, rfl, ho3, hg3⟩
       obtain ⟨hb3, hs3, hr3, ha3⟩ := srch_open hby hm1 hBb ((Hbw.out.trans (hb1.mono Hbw.out.size)).trans ((alloc_bw w1 _).mono (Nat.le_trans Hbw.out.size hb1.size))) hg3 ho3
       have hc43 := (hb3.cell 4).trans (show (#[Value.pointer o, .int .i64 fuel, .map (some mr), .map (some ma), .slice A n c, .map (some mv), vt] : Array Value)[4]? = some (.slice A n c) from rfl)
       have hf43 := hb3.frozen 4))
  refine ⟨rfl, .tuple #[], results_none rfl _ _ _, ?_⟩
  exact ⟨rfl, hs3, (Runs.of_below (hb1.trans ((alloc_bw w1 _).mono hb1.size))).trans hr3, fun ga => ha3 ((ga.below hb1).below (alloc_bw w1 _))⟩
theorem waitP_any (nm : ByteArray) (w : World) (g : Srch X w0 b o K fuel h vf O F vt w) (hr : RisesN O) (hO : O.length ≤ 1000000) :
    Calls Tryz.prog 73 #[.pointer (some ⟨b, 0, none⟩), .string nm] w fun e w' => e = .returned (.tuple #[]) ∧ Srch X w0 b o K fuel h vf (insN nm O) F vt w' ∧ Runs w w' := by
  obtain ⟨mr, ma, mv, g⟩ := g
  refine (waitM_any nm w g hr hO).mono ?_
  rintro e w' ⟨h1, h2, h3, _⟩
  exact ⟨h1, h2.srch, h3⟩
end
end Go.Proofs.YtmoeilkaadnnoaaGreat.Plain
