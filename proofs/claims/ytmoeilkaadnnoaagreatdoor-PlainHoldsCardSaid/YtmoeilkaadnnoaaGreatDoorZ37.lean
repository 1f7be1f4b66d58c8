/-
  Some texts of this claim, one behind the other: IndexNames, IndexClone, IndexRefPut, IndexAwake, IndexSame, IndexStaysW. What each proves, and its condition, stands at its head.
-/
import Derived.Test.YtmoeilkaadnnoaaGreatDoorZ36
import Derived.Test.YtmoeilkaadnnoaaGreatDoorZ4
import Derived.Test.YtmoeilkaadnnoaaGreatDoorZ17
import Derived.Shelf.SlMaps.Clone
import Derived.Maps.RangeWalk
import Derived.Sort.KeysCollected
import Derived.Test.YtmoeilkaadnnoaaGreatDoorZ35
import Derived.Test.YtmoeilkaadnnoaaGreatDoorZ11
import Derived.Test.YtmoeilkaadnnoaaGreatDoorZ31
import Derived.Test.YtmoeilkaadnnoaaGreatDoorZ29
/-
  Contracts of the program's Names, Clone and Of: the names that are known, rising; an index that knows the same; one into which entries were put. Condition: names and lists of a length that may be walked.
-/
namespace Go.Proofs.YtmoeilkaadnnoaaGreatDoor.Index
open Go Go.RowKit Go.Lib Go.Maps Go.Sort Go.Shelf Go.Proofs.YtmoeilkaadnnoaaGreatDoor.Span Go.Proofs.YtmoeilkaadnnoaaGreatDoor.Need Go.Proofs.YtmoeilkaadnnoaaGreatDoor.Mani Go.Proofs.YtmoeilkaadnnoaaGreatDoor.Wire Go.Proofs.YtmoeilkaadnnoaaGreatDoor.Depot Go.Proofs.YtmoeilkaadnnoaaGreatDoor.MapV
set_option linter.unusedVariables false
/-- Names that may be walked. -/
def ShortX (l : List Kn) : Prop := ∀ q ∈ l, q.1.size ≤ 1000000000
theorem ShortX.nil : ShortX [] := fun q hq => by cases hq
theorem ShortX.put {l : List Kn} (h : ShortX l) {nm : ByteArray} (hnm : nm.size ≤ 1000000000) (b : List UInt8) : ShortX (putX l nm b) := by
  unfold putX
  split
  · intro q hq
    rcases (insX_mem _ _).1 hq with rfl | hq
    · exact hnm
    · exact h q hq
  · exact h
theorem texts_of (L : List ByteArray) : (L.map bytesOf).map encStr = tcs L := by
  rw [List.map_map]
  unfold tcs
  refine List.map_congr_left fun x _ => ?_
  simp [encStr, bytesOf]
theorem told_key {D : DataW Value} {l : List Nv} (h : MapV.Told D l) {x : List UInt8} (hx : Maps.has D (.string x) = true) : (⟨x.toArray⟩ : ByteArray) ∈ l.map Prod.fst := by
  have e : bytesOf (⟨x.toArray⟩ : ByteArray) = x := by simp [bytesOf]
  have h2 := h.2.1 ⟨x.toArray⟩
  rw [e, hx] at h2
  generalize (⟨x.toArray⟩ : ByteArray) = nm at h2
  clear h hx e
  induction l with
  | nil => cases h2
  | cons q t ih =>
    rw [lookA] at h2
    by_cases g : q.1 = nm
    · simp [g]
    · rw [if_neg g] at h2
      exact List.mem_cons_of_mem _ (ih h2)
end Go.Proofs.YtmoeilkaadnnoaaGreatDoor.Index
/-
  Contracts of the program's Clone and Of, and of Names at nil: an index that knows the same; one into which entries were put. Condition: names and lists of a length that may be walked.
-/
namespace Go.Proofs.YtmoeilkaadnnoaaGreatDoor.Index
open Go Go.RowKit Go.Lib Go.Maps Go.Sort Go.Shelf Go.Proofs.YtmoeilkaadnnoaaGreatDoor.Span Go.Proofs.YtmoeilkaadnnoaaGreatDoor.Need Go.Proofs.YtmoeilkaadnnoaaGreatDoor.Mani Go.Proofs.YtmoeilkaadnnoaaGreatDoor.Wire Go.Proofs.YtmoeilkaadnnoaaGreatDoor.Depot Go.Proofs.YtmoeilkaadnnoaaGreatDoor.MapV
set_option linter.unusedVariables false
/-- What is known behind entries, and its bounds. -/
theorem puts_short {l : List Kn} (h : ShortX l) (es : List En) (he : ∀ e ∈ es, e.1.size ≤ 1000000000) : ShortX (putsX l es) := by
  induction es generalizing l with
  | nil => exact h
  | cons e t ih => exact ih (h.put (he e (by simp)) e.2) fun x hx => he x (by simp [hx])
/-- An index all of whose blocks lie at B or behind. -/
def IdxB (w : World) (B g : Nat) (l : List Kn) : Prop := B ≤ g ∧ ∃ mo, Idx w g mo l ∧ ∀ b, mo = some b → B ≤ b
theorem IdxB.row {g B : Nat} {mo : Option Nat} (hg : B ≤ g) (hm : ∀ b, mo = some b → B ≤ b) : B ≤ rowX g mo := by
  cases mo with
  | none => exact hg
  | some b => exact hm b rfl
theorem IdxB.below {w w' : World} {B g : Nat} {l : List Kn} (h : IdxB w B g l) (hb : Below w.heap.size w w') : IdxB w' B g l := by
  obtain ⟨h1, mo, h2, h3⟩ := h
  exact ⟨h1, mo, h2.below hb, h3⟩
theorem IdxB.lt {w : World} {B g : Nat} {l : List Kn} (h : IdxB w B g l) : g < w.heap.size := by
  obtain ⟨_, mo, h2, _⟩ := h
  exact h2.lt
theorem IdxB.le {w : World} {B g : Nat} {l : List Kn} (h : IdxB w B g l) : B ≤ w.heap.size := Nat.le_trans h.1 (Nat.le_of_lt h.lt)
/-- A put, where all that is written lies at B or behind. -/
theorem putB_any (g : Nat) (l : List Kn) (nm : ByteArray) (bd : List UInt8) (A : Option Addr) (n c B : Nat) (w : World) (h : IdxB w B g l) (hl : RisesK l) (hlen : l.length ≤ 100000) (hr : Reads w B 1 A n (bcs bd)) (hnm : nm.size ≤ 1000000000) :
    Calls Tryz.prog 14 #[.pointer (some ⟨g, 0, none⟩), .string nm, .slice A n c] w fun e w' =>
      e = .returned (.int .i64 (errX l nm bd)) ∧ IdxB w' B g (putX l nm bd) ∧ Below B w w' := by
  have hle := h.le
  obtain ⟨h1, mo, h2, h3⟩ := h
  refine (put_any g mo l nm bd A n c B w h2 hl hlen hr (IdxB.row h1 h3) hnm).mono ?_
  rintro e w' ⟨he, ⟨mo', h4, h5⟩, hg⟩
  refine ⟨he, ⟨h1, mo', h4, fun b hb => ?_⟩, (Below.refl _ _).grown hg hle (fun k hk => by injection hk with hk; rw [← hk]; exact IdxB.row h1 h3)⟩
  rcases h5 with rfl | ⟨_, b', e2, h6⟩
  · exact h3 b hb
  · rw [hb] at e2
    injection e2 with e2
    rw [e2]; exact Nat.le_trans hle h6
set_option maxHeartbeats 4000000 in
set_option maxRecDepth 100000 in
theorem indexOf_any (l : List En) (A : Option Addr) (n c : Nat) (w : World) (h : EnOn w A n l) (hn : n ≤ 100000) (hl : ∀ e ∈ l, e.1.size ≤ 1000000000) :
    Calls Tryz.prog 9 #[.slice A n c] w fun e w' => ∃ g, e = .returned (.pointer (some ⟨g, 0, none⟩)) ∧ IdxB w' w.heap.size g (putsX [] l) ∧ Below w.heap.size w w' := by
  have HN := hide (new_any w)
  have Hlen := hide h.len
  go_enter Tryz.func9, Tryz.ntmps9
  go_wp2_with (first
    | (go_at_call 18
       refine HN.out.mono ?_
       rintro e w1 ⟨rfl, hI1, hb1⟩))
  go_loopw [9] (fun v wr => ∃ (i : Nat), i ≤ n ∧ v = .int .i64 (i : Int) ∧ IdxB wr w.heap.size w.heap.size (putsX [] (l.take i)) ∧ Below w.heap.size w wr) (fun v _ => n - (RowKit.intOf v).toNat)
  case atStart => exact ⟨0, by omega, rfl, ⟨Nat.le_refl _, none, hI1, fun b e => by cases e⟩, hb1⟩
  case round =>
    obtain ⟨i, hi, rfl, hI, hb⟩ := hrel
    have hbs := hb.size
    clear hI1 hb1
    by_cases hlt : i < n
    · obtain ⟨ad, q, A', n', c', rfl, hbl, hx, hs, c1, c2⟩ := PIn.at_ (EnIn.below h hb) hlt
      have hnm := hl q (List.mem_of_getElem? hx)
      have hst := putsX_take (l := []) hx
      have hrise := putsX_rises (l := []) List.Pairwise.nil (l.take i)
      have hplen := putsX_len [] (l.take i)
      have htl : (l.take i).length ≤ i := by rw [List.length_take]; omega
      have hpl : (putsX [] (l.take i)).length ≤ 100000 := by
        have e0 : ([] : List Kn).length = 0 := rfl
        omega
      obtain ⟨x, s⟩ := q
      simp only [] at c1 c2 hnm hst
      have hrd : Reads wr w.heap.size 1 A' n' (bcs s) := hs
      have HP := hide (fun (wx : World) (hx : Below wr.heap.size wr wx) => putB_any w.heap.size _ x s A' n' c' w.heap.size wx (hI.below hx) hrise hpl (hrd.below (hx.mono hbs)) hnm)
      have Hst := hide hst
      clear hst hrise hplen htl hpl hx hs hrd hI hnm
      generalize putsX [] (l.take i) = X at *
      go_wp2_with (first
        | (go_at_call 14
           refine (HP.out _ (alloc_b _)).mono ?_
           rintro e w2 ⟨rfl, hI2, hb2⟩))
      have hbw : Below w.heap.size w w2 := (hb.alloc hbs _).trans hb2
      go_roundw
      case rel => exact ⟨i + 1, by omega, by go_num, by rw [Hst.out]; exact hI2, hbw⟩
      case measure => simp [RowKit.intOf]; omega
    · have hi2 : i = n := by omega
      subst hi2
      rw [List.take_of_length_le (by rw [Hlen.out]; exact Nat.le_refl _)] at hI
      go_wp2
      go_ret
      exact ⟨w.heap.size, rfl, hI, hb⟩
end Go.Proofs.YtmoeilkaadnnoaaGreatDoor.Index
/-
  Contracts of the document's Put and Of: what an index knows behind a put, and behind entries. Condition: lists and names of a length that may be walked.
-/
namespace Go.Proofs.YtmoeilkaadnnoaaGreatDoor.Index
open Go Go.RowKit Go.Lib Go.Proofs.YtmoeilkaadnnoaaGreatDoor.Span Go.Proofs.YtmoeilkaadnnoaaGreatDoor.Need Go.Proofs.YtmoeilkaadnnoaaGreatDoor.Mani Go.Proofs.YtmoeilkaadnnoaaGreatDoor.Wire Go.Proofs.YtmoeilkaadnnoaaGreatDoor.Depot
open Go.Proofs.YtmoeilkaadnnoaaGreatDoor.Label (runes fitL)
set_option linter.unusedVariables false
theorem insX_step {K q : Kn} {l : List Kn} {i : Nat} (p : Bool) (h : l[i]? = some q) : insX K p (l.drop i) = if p = false ∧ nlt K.1 q.1 = true then K :: q :: insX K true (l.drop (i + 1)) else q :: insX K p (l.drop (i + 1)) := by
  obtain ⟨hi, e⟩ := List.getElem?_eq_some_iff.1 h
  rw [List.drop_eq_getElem_cons hi, e]
  rfl
end Go.Proofs.YtmoeilkaadnnoaaGreatDoor.Index
/-
  The contract of the document's Of; the chapter's example (awake): it holds. Condition: entries as many as may be walked, their names of at most 1,000,000,000 bytes.
-/
namespace Go.Proofs.YtmoeilkaadnnoaaGreatDoor.Index
open Go Go.RowKit Go.Lib Go.Proofs.YtmoeilkaadnnoaaGreatDoor.Span Go.Proofs.YtmoeilkaadnnoaaGreatDoor.Need Go.Proofs.YtmoeilkaadnnoaaGreatDoor.Mani Go.Proofs.YtmoeilkaadnnoaaGreatDoor.Wire Go.Proofs.YtmoeilkaadnnoaaGreatDoor.Depot
open Go.Proofs.YtmoeilkaadnnoaaGreatDoor.Label (runes fitL)
set_option linter.unusedVariables false
theorem may_one : mayX (str [97]) [] = true := by
  unfold mayX
  rw [Wire.fit_one]
  decide
theorem err_one : errX [] (str [97]) [] = 0 := by
  unfold errX
  rw [if_neg (by rw [may_one]; simp), if_neg (by simp [atX])]
theorem good_none : goodE (str [97]) [] = false := by
  unfold goodE
  have : errB [] ≠ 0 := by decide
  rw [decide_eq_false this]
  rfl
end Go.Proofs.YtmoeilkaadnnoaaGreatDoor.Index
/-
  The contract of the law's own Same: an index that knows what the document's knows is told to. Condition: lists and names of a length that may be walked.
-/
namespace Go.Proofs.YtmoeilkaadnnoaaGreatDoor.Index
open Go Go.RowKit Go.Lib Go.Proofs.YtmoeilkaadnnoaaGreatDoor.Span Go.Proofs.YtmoeilkaadnnoaaGreatDoor.Need Go.Proofs.YtmoeilkaadnnoaaGreatDoor.Mani Go.Proofs.YtmoeilkaadnnoaaGreatDoor.Wire Go.Proofs.YtmoeilkaadnnoaaGreatDoor.Depot
set_option linter.unusedVariables false
theorem namesX_at {l : List Kn} {i : Nat} {x : ByteArray} (h : (namesX l)[i]? = some x) : ∃ q, l[i]? = some q ∧ q.1 = x := by
  unfold namesX at h
  rw [List.getElem?_map] at h
  exact Option.map_eq_some_iff.1 h
theorem drew_b (w : World) : Below w.heap.size w w.drew := (Below.refl _ _).drew
end Go.Proofs.YtmoeilkaadnnoaaGreatDoor.Index
/-
  The walk of IndexStays. Condition: the slice reads as entries; lengths as a row bounds them.
-/
namespace Go.Proofs.YtmoeilkaadnnoaaGreatDoor.Index
open Go Go.RowKit Go.Lib Go.Proofs.YtmoeilkaadnnoaaGreatDoor.Span Go.Proofs.YtmoeilkaadnnoaaGreatDoor.Need Go.Proofs.YtmoeilkaadnnoaaGreatDoor.Mani Go.Proofs.YtmoeilkaadnnoaaGreatDoor.Wire Go.Proofs.YtmoeilkaadnnoaaGreatDoor.Depot
set_option linter.unusedVariables false
theorem stays_facts (X : List Kn) (hr : RisesK X) (x : ByteArray) (bd : List UInt8) :
    ((atX X x).isSome = true ∧ errX X x bd ≠ 0 ∧ getX (putX X x bd) x = getX X x ∧ (putX X x bd).length = X.length) ∨
    ((atX X x).isSome = false ∧ errX [] x bd = errX X x bd ∧ getX (putX [] x bd) x = getX (putX X x bd) x ∧
      ((errX X x bd = 0 ∧ (putX X x bd).length = X.length + 1 ∧ (atX (putX X x bd) x).isSome = true) ∨ (errX X x bd = 1 ∧ (putX X x bd).length = X.length))) := by
  cases ha : atX X x with
  | some k =>
    have he : errX X x bd ≠ 0 := fun e => by
      have := (errX_zero.1 e).2
      rw [ha] at this
      cases this
    exact .inl ⟨rfl, he, by unfold getX; rw [putX_at hr, if_neg (fun g => he g.1)], by rw [putX_len, if_neg he]; rfl⟩
  | none =>
    refine .inr ⟨rfl, ?_, ?_, ?_⟩
    · unfold errX
      rw [ha]
      rfl
    · have e0 : errX [] x bd = errX X x bd := by unfold errX; rw [ha]; rfl
      unfold getX
      rw [putX_at hr, putX_at List.Pairwise.nil, e0, ha]
      rfl
    · by_cases hm : mayX x bd = true
      · have e : errX X x bd = 0 := errX_zero.2 ⟨hm, ha⟩
        exact .inl ⟨e, by rw [putX_len, if_pos e], by rw [putX_at hr, if_pos ⟨e, rfl⟩]; rfl⟩
      · have e : errX X x bd = 1 := by unfold errX; rw [if_pos (by simpa using hm)]
        exact .inr ⟨e, by rw [putX_len, if_neg (by rw [e]; decide)]; rfl⟩
/-! Contracts at an index whose blocks lie at B or behind. -/
section
variable {g B : Nat} {l : List Kn} {w : World}
theorem hasB_any (nm : ByteArray) (h : IdxB w B g l) (hnm : nm.size ≤ 1000000000) :
    Calls Tryz.prog 23 #[.pointer (some ⟨g, 0, none⟩), .string nm] w fun e w' => e = .returned (.bool (atX l nm).isSome) ∧ w = w' := by
  obtain ⟨_, mo, h2, _⟩ := h
  exact has_any g mo l nm w h2 hnm
theorem getB_any (nm : ByteArray) (h : IdxB w B g l) (hl : FineX l) (hnm : nm.size ≤ 1000000000) :
    Calls Tryz.prog 36 #[.pointer (some ⟨g, 0, none⟩), .string nm] w (Gots w nm (getX l nm)) := by
  obtain ⟨_, mo, h2, _⟩ := h
  exact get_any g mo l nm w h2 hl hnm
/-- What a put writes: a row at B or behind, of an index. -/
def Wrote (B : Nat) (w w' : World) : Prop := ∃ row, w.grownBy w' (some row) ∧ B ≤ row ∧ ∀ T, T ≠ 70 → FarT w T (some row)
theorem Wrote.below {w' : World} (h : Wrote B w w') (hB : B ≤ w.heap.size) : Below B w w' := by
  obtain ⟨row, h1, h2, _⟩ := h
  exact (Below.refl _ _).grown h1 hB (fun k hk => by injection hk with hk; omega)
theorem Wrote.blk {w' : World} {p : Nat} {T : TypeId} {cs : Array Value} (h : Wrote B w w') (hp : Blk w p T cs) (hT : T ≠ 70) : Blk w' p T cs := by
  obtain ⟨row, h1, h2, h3⟩ := h
  exact hp.grown h1 (h3 T hT p _ _ hp)
theorem Wrote.rls {w' : World} {B2 n : Nat} {v : Value} {rs : List Vr} {r : List Rl} (h : Wrote B w w') (hr : Rls w B2 v n rs r) : Rls w' B2 v n rs r := by
  obtain ⟨row, h1, h2, h3⟩ := h
  exact hr.far (h3 _ (by decide)) (h3 _ (by decide)) (h3 _ (by decide)) h1
theorem putW_any (nm : ByteArray) (bd : List UInt8) (A : Option Addr) (n c : Nat) (h : IdxB w B g l) (hl : RisesK l) (hlen : l.length ≤ 100000) (hr : Reads w B 1 A n (bcs bd)) (hnm : nm.size ≤ 1000000000) :
    Calls Tryz.prog 14 #[.pointer (some ⟨g, 0, none⟩), .string nm, .slice A n c] w fun e w' =>
      e = .returned (.int .i64 (errX l nm bd)) ∧ IdxB w' B g (putX l nm bd) ∧ Wrote B w w' := by
  have hle := h.le
  obtain ⟨h1, mo, h2, h3⟩ := h
  refine (put_any g mo l nm bd A n c B w h2 hl hlen hr (IdxB.row h1 h3) hnm).mono ?_
  rintro e w' ⟨he, ⟨mo', h4, h5⟩, hg⟩
  refine ⟨he, ⟨h1, mo', h4, fun b hb => ?_⟩, rowX g mo, hg, IdxB.row h1 h3, fun T hT => h2.farT hT⟩
  rcases h5 with rfl | ⟨_, b', e2, h6⟩
  · exact h3 b hb
  · rw [hb] at e2
    injection e2 with e2
    rw [e2]; exact Nat.le_trans hle h6
end
theorem take_bounds (l : List En) (i : Nat) (h30 : l.length ≤ 30) (hs : ∀ q ∈ l, q.1.size ≤ 200 ∧ q.2.length ≤ 9000) :
    RisesK (putsX [] (l.take i)) ∧ FineX (putsX [] (l.take i)) ∧ ShortX (putsX [] (l.take i)) ∧ (putsX [] (l.take i)).length ≤ 30 := by
  refine ⟨putsX_rises List.Pairwise.nil _, FineX.nil.puts _, puts_short ShortX.nil _ fun e he => by have := hs e (List.mem_of_mem_take he); omega, ?_⟩
  have h1 := putsX_len [] (l.take i)
  have h2 : (l.take i).length ≤ l.length := by rw [List.length_take]; omega
  have h3 : ([] : List Kn).length = 0 := rfl
  omega
end Go.Proofs.YtmoeilkaadnnoaaGreatDoor.Index
