/-
  Some texts of this claim, one behind the other: DepotCells, DepotCheck. What each proves, and its condition, stands at its head.
-/
import Derived.Test.YtmoeilkaadnnoaaGreatY26
import Derived.Test.YtmoeilkaadnnoaaGreatY21
import Derived.Test.YtmoeilkaadnnoaaGreatY27
import Derived.Test.YtmoeilkaadnnoaaGreatY1
import Derived.Test.YtmoeilkaadnnoaaGreatY13
/-
  Slices of entries and of manifests in memory: what came in with a call, and what the call makes. No condition.
-/
namespace Go.Proofs.YtmoeilkaadnnoaaGreat.Depot
open Go.RowKit Go.Lib Go.Proofs.YtmoeilkaadnnoaaGreat.Span Go.Proofs.YtmoeilkaadnnoaaGreat.Need Go.Proofs.YtmoeilkaadnnoaaGreat.Mani Go.Proofs.YtmoeilkaadnnoaaGreat.Wire
set_option linter.unusedVariables false
abbrev Tell (β : Type) := World → Nat → Option Addr → Nat → β → Prop
structure Keeps {β : Type} (R : Tell β) : Prop where
  below : ∀ {w w' : World} {B n : Nat} {A : Option Addr} {x : β}, R w B A n x → Below B w w' → R w' B A n x
  more : ∀ {w : World} {B B' n : Nat} {A : Option Addr} {x : β}, R w B A n x → B ≤ B' → R w B' A n x
def PIn {β : Type} (R : Tell β) (w : World) (B : Nat) (A : Option Addr) (n : Nat) (l : List (ByteArray × β)) : Prop :=
  ∃ rs : List Rw, Reads w B 2 A n (rcs rs) ∧ rs.length = l.length ∧ ∀ (i : Nat) (r : Rw) (q : ByteArray × β), rs[i]? = some r → l[i]? = some q → r.1 = q.1 ∧ ∃ A n c, r.2 = .slice A n c ∧ R w B A n q.2
section
variable {β : Type} {R : Tell β} {w w' : World} {B B' n k : Nat} {A : Option Addr} {l : List (ByteArray × β)}
theorem PIn.len (h : PIn R w B A n l) : l.length = n := by
  obtain ⟨rs, h1, h2, _⟩ := h
  have := h1.1
  rw [rcs_length] at this
  omega
theorem PIn.at_ (h : PIn R w B A n l) (hk : k < n) :
    ∃ ad q A' n' c', A = some ad ∧ ad.block < B ∧ l[k]? = some q ∧ R w B A' n' q.2 ∧ w.cell? (ad.add (k * 2)) = some (.string q.1) ∧ w.cell? ⟨(ad.add (k * 2)).block, (ad.add (k * 2)).off + 1, none⟩ = some (.slice A' n' c') := by
  have hl := h.len
  obtain ⟨rs, h1, h2, h3⟩ := h
  obtain ⟨ad, hA, hb, hc⟩ := h1.2 (by omega)
  have hr : k < rs.length := by omega
  obtain ⟨e1, A', n', c', e2, hs⟩ := h3 k rs[k] (l[k]'(by omega)) (by simp) (by simp)
  obtain ⟨g1, g2⟩ := rcs_get rs k rs[k] (by simp)
  refine ⟨ad, l[k]'(by omega), A', n', c', hA, hb, by simp, hs, ?_, ?_⟩
  · rw [← e1]; exact hc _ _ g1
  · rw [← add_field, ← e2]; exact hc _ _ g2
theorem PIn.below (hR : Keeps R) (h : PIn R w B A n l) (hb : Below B w w') : PIn R w' B A n l := by
  obtain ⟨rs, h1, h2, h3⟩ := h
  refine ⟨rs, h1.below hb, h2, fun i r q hr hq => ?_⟩
  obtain ⟨e1, A', n', c', e2, hs⟩ := h3 i r q hr hq
  exact ⟨e1, A', n', c', e2, hR.below hs hb⟩
theorem PIn.more (hR : Keeps R) (h : PIn R w B A n l) (hb : B ≤ B') : PIn R w B' A n l := by
  obtain ⟨rs, h1, h2, h3⟩ := h
  refine ⟨rs, h1.more hb, h2, fun i r q hr hq => ?_⟩
  obtain ⟨e1, A', n', c', e2, hs⟩ := h3 i r q hr hq
  exact ⟨e1, A', n', c', e2, hR.more hs hb⟩
theorem PIn.nil (R : Tell β) (w : World) (B : Nat) (A : Option Addr) : PIn R w B A 0 [] := ⟨[], ⟨rfl, fun h => absurd h (by omega)⟩, rfl, fun i r q hr _ => by simp at hr⟩
end
theorem pin_row {β γ : Type} {R : Tell β} {L : Lie γ} {w : World} {A : Option Addr} {n : Nat} {l : List (ByteArray × List γ)} (f : List γ → β)
    (hf : ∀ (A : Option Addr) (n : Nat) (x : List γ), RowOf L w w.heap.size A n x → R w w.heap.size A n (f x)) (h : RowOf (liePair lieStr (lieSlice L)) w w.heap.size A n l) :
    PIn R w w.heap.size A n (l.map fun q => (q.1, f q.2)) ∧ ∀ q ∈ l, q.1.size ≤ maxLen ∧ q.2.length ≤ maxLen := by
  have key : ∀ i, i < n → ∃ r : Rw, ∃ ad q A' n' c', A = some ad ∧ ad.block < w.heap.size ∧ l[i]? = some q ∧ r = (q.1, .slice A' n' c') ∧ CellsAt w (ad.add (i * 2)) [.string q.1, .slice A' n' c'] ∧ R w w.heap.size A' n' (f q.2) ∧ q.1.size ≤ maxLen ∧ q.2.length ≤ maxLen := by
    intro i hi
    obtain ⟨ad, q, cs, hA, hB, hq, h1, c1, c2, e, ⟨e1, hs⟩, ⟨A', n', c', e2, hn, hm, _, hr⟩⟩ := h.at_ hi
    subst e e1 e2
    exact ⟨_, ad, q, A', n', c', hA, hB, hq, rfl, h1, hf _ _ _ hr, hs, by rw [hr.1]; omega⟩
  obtain ⟨rs, hl, hp⟩ := list_of n _ key
  refine ⟨⟨rs, ⟨by rw [rcs_length, hl], fun hn => ?_⟩, by rw [hl, List.length_map, h.1], fun i r q hr hq => ?_⟩, fun q hq => ?_⟩
  · obtain ⟨_, ad, _, _, _, _, hA, hB, _⟩ := key 0 hn
    refine ⟨ad, hA, hB, fun j u hu => ?_⟩
    have hj : j < rs.length * 2 := by
      have := (List.getElem?_eq_some_iff.1 hu).1
      rwa [rcs_length] at this
    have hr : rs[j / 2]? = some (rs[j / 2]'(by omega)) := by simp
    obtain ⟨ad', q, A', n', c', hA', _, hq, e, hc, _⟩ := hp _ _ hr
    rw [hA] at hA'
    injection hA' with hA'
    subst hA'
    obtain ⟨g1, g2⟩ := rcs_get rs _ _ hr
    rw [e] at g1 g2
    rcases Nat.mod_two_eq_zero_or_one j with h0 | h0
    · have ej : j = j / 2 * 2 := by omega
      rw [ej, g1] at hu
      injection hu with hu
      subst hu
      have := hc 0 (by simp)
      rw [add_of_add, Nat.add_zero, ← ej] at this
      simpa using this
    · have ej : j = j / 2 * 2 + 1 := by omega
      rw [ej, g2] at hu
      injection hu with hu
      subst hu
      have := hc 1 (by simp)
      rw [add_of_add, ← ej] at this
      simpa using this
  · obtain ⟨ad', q', A', n', c', _, _, hq', e, _, hN, _⟩ := hp _ _ hr
    rw [List.getElem?_map, hq'] at hq
    simp only [Option.map_some, Option.some.injEq] at hq
    subst hq
    exact ⟨by rw [e], A', n', c', by rw [e], hN⟩
  · obtain ⟨i, hi, rfl⟩ := List.getElem_of_mem hq
    obtain ⟨r, ad', q', A', n', c', _, _, hq', e, _, hN, h5, h6⟩ := key i (by rw [← h.1]; exact hi)
    rw [List.getElem?_eq_getElem hi] at hq'
    injection hq' with hq'
    rw [hq']
    exact ⟨h5, h6⟩
/-! Entries. -/
def byR : Tell (List UInt8) := fun w B A n b => Reads w B 1 A n (bcs b)
theorem byR_keeps : Keeps byR := ⟨fun h hb => Reads.below h hb, fun h hb => Reads.more h hb⟩
def EnIn := PIn byR
def EnOn (w : World) (A : Option Addr) (n : Nat) (l : List En) : Prop := EnIn w w.heap.size A n l
theorem EnIn.below {w w' : World} {B n : Nat} {A : Option Addr} {l : List En} (h : EnIn w B A n l) (hb : Below B w w') : EnIn w' B A n l := PIn.below byR_keeps h hb
theorem EnIn.more {w : World} {B B' n : Nat} {A : Option Addr} {l : List En} (h : EnIn w B A n l) (hb : B ≤ B') : EnIn w B' A n l := PIn.more byR_keeps h hb
theorem EnOn.on {w w' : World} {A : Option Addr} {n : Nat} {l : List En} (h : EnOn w A n l) (hb : Below w.heap.size w w') : EnOn w' A n l := (EnIn.below h hb).more hb.size
theorem EnOn.nil (w : World) (A : Option Addr) : EnOn w A 0 [] := PIn.nil _ _ _ _
def toE (l : List (ByteArray × List Int)) : List En := l.map fun q => (q.1, q.2.map fun z => UInt8.ofNat z.toNat)
theorem enOn_of {w : World} {A : Option Addr} {n : Nat} {l : List (ByteArray × List Int)} (h : RowOf (liePair lieStr (lieSlice (lieInt .u8))) w w.heap.size A n l) : EnOn w A n (toE l) ∧ ∀ q ∈ toE l, q.1.size ≤ maxLen ∧ q.2.length ≤ maxLen := by
  obtain ⟨h1, h2⟩ := pin_row (R := byR) (L := lieInt .u8) (fun (x : List Int) => x.map fun (z : Int) => UInt8.ofNat z.toNat) (fun A n x hx => row_as_bytes hx) h
  refine ⟨h1, fun q hq => ?_⟩
  obtain ⟨x, hx, rfl⟩ := List.mem_map.1 hq
  have := h2 x hx
  simpa using this
/-! Manifests. -/
def rlR : Tell (List Rl) := fun w B A n b => RlIn w B A n b
theorem rlR_keeps : Keeps rlR := ⟨fun h hb => RlIn.below h hb, fun h hb => RlIn.more h hb⟩
def MnIn := PIn rlR
def MnOn (w : World) (A : Option Addr) (n : Nat) (l : List Mn) : Prop := MnIn w w.heap.size A n l
theorem MnIn.below {w w' : World} {B n : Nat} {A : Option Addr} {l : List Mn} (h : MnIn w B A n l) (hb : Below B w w') : MnIn w' B A n l := PIn.below rlR_keeps h hb
theorem MnIn.more {w : World} {B B' n : Nat} {A : Option Addr} {l : List Mn} (h : MnIn w B A n l) (hb : B ≤ B') : MnIn w B' A n l := PIn.more rlR_keeps h hb
theorem MnOn.on {w w' : World} {A : Option Addr} {n : Nat} {l : List Mn} (h : MnOn w A n l) (hb : Below w.heap.size w w') : MnOn w' A n l := (MnIn.below h hb).more hb.size
/-! What a call makes. -/
def InB (w : World) (A : Option Addr) (n : Nat) (b : List UInt8) : Prop :=
  Reads w w.heap.size 1 A n (bcs b) ∧ ∀ ad, A = some ad → 0 < n → ∃ cur m, w.heap[ad.block]? = some (.cells cur 5 m)
theorem InB.below {w w' : World} {n : Nat} {A : Option Addr} {b : List UInt8} (h : InB w A n b) (hb : Below w.heap.size w w') : InB w' A n b :=
  ⟨(h.1.below hb).more hb.size, fun ad hA hn => by
    obtain ⟨ad', hA', hlt, _⟩ := h.1.2 hn
    rw [hA] at hA'
    injection hA' with hA'
    subst hA'
    obtain ⟨cur, k, h4⟩ := h.2 ad hA hn
    exact ⟨cur, k, (hb.block _ hlt).trans h4⟩⟩
theorem InB.far {w w' : World} {row : Option Nat} {n : Nat} {A : Option Addr} {b : List UInt8} (h : InB w A n b) (hf : FarT w 5 row) (hg : w.grownBy w' row) : InB w' A n b := by
  have blk : ∀ ad, A = some ad → 0 < n → ad.block < w.heap.size ∧ w'.heap[ad.block]? = w.heap[ad.block]? := fun ad hA hn => by
    obtain ⟨ad', hA', hlt, _⟩ := h.1.2 hn
    rw [hA] at hA'
    injection hA' with hA'
    subst hA'
    obtain ⟨cur, k, h4⟩ := h.2 ad hA hn
    exact ⟨hlt, hg.block _ hlt (hf _ _ _ h4)⟩
  refine ⟨⟨h.1.1, fun hn => ?_⟩, fun ad hA hn => ?_⟩
  · obtain ⟨ad, hA, hlt, hc⟩ := h.1.2 hn
    exact ⟨ad, hA, Nat.lt_of_lt_of_le hlt hg.size, fun j u hu => (World.cell?_of_block (by rw [block_of_add]; exact (blk ad hA hn).2)).trans (hc j u hu)⟩
  · obtain ⟨cur, k, h4⟩ := h.2 ad hA hn
    exact ⟨cur, k, (blk ad hA hn).2.trans h4⟩
def AllB (w : World) (rs : List Rw) (l : List En) : Prop :=
  rs.length = l.length ∧ ∀ (i : Nat) (r : Rw) (q : En), rs[i]? = some r → l[i]? = some q → r.1 = q.1 ∧ ∃ A n c, r.2 = .slice A n c ∧ InB w A n q.2
section
variable {w w' w1 : World} {B n m : Nat} {v v1 : Value} {rs rs2 : List Rw} {l l2 : List En}
theorem AllB.mono (h : AllB w rs l) (hk : ∀ A n s, InB w A n s → InB w' A n s) : AllB w' rs l :=
  ⟨h.1, fun i r q hr hq => by
    obtain ⟨e1, A, n, c, e2, hs⟩ := h.2 i r q hr hq
    exact ⟨e1, A, n, c, e2, hk _ _ _ hs⟩⟩
theorem AllB.append (h : AllB w rs l) (h2 : AllB w rs2 l2) : AllB w (rs ++ rs2) (l ++ l2) :=
  ⟨by simp [h.1, h2.1], fun i r q hr hq => by
    rcases Nat.lt_or_ge i rs.length with hi | hi
    · rw [List.getElem?_append_left hi] at hr
      rw [List.getElem?_append_left (by rw [← h.1]; exact hi)] at hq
      exact h.2 i r q hr hq
    · rw [List.getElem?_append_right hi] at hr
      rw [List.getElem?_append_right (by rw [← h.1]; exact hi), ← h.1] at hq
      exact h2.2 _ r q hr hq⟩
theorem AllB.one {z : ByteArray} {A : Option Addr} {k c : Nat} {s : List UInt8} (h : InB w A k s) : AllB w [(z, .slice A k c)] [(z, s)] :=
  ⟨rfl, fun i r q hr hq => by
    rcases i with _ | i
    · simp at hr hq
      subst hr hq
      exact ⟨rfl, A, k, c, rfl, h⟩
    · simp at hr⟩
def Ens (w : World) (B : Nat) (v : Value) (n : Nat) (rs : List Rw) (l : List En) : Prop := w.ownsRow B 52 2 v n (rcs rs) ∧ AllB w rs l
theorem Ens.nil_ (w : World) (B : Nat) : Ens w B (.slice none 0 0) 0 [] [] := ⟨World.ownsRow_nil w B _ 2, rfl, fun i r q hr _ => by simp at hr⟩
theorem Ens.below (h : Ens w B v n rs l) (hb : Below w.heap.size w w') : Ens w' B v n rs l := ⟨own_below h.1 hb, h.2.mono fun _ _ _ hs => hs.below hb⟩
theorem Ens.cat (h : Ens w B v n rs l) (h2 : AllB w rs2 l2) (h1 : w1.ownsRow B 52 2 v1 m (rcs rs ++ rcs rs2)) (hg : w.grownBy w1 v.ownBlock) : Ens w1 B v1 m (rs ++ rs2) (l ++ l2) :=
  ⟨by rw [rcs_append]; exact h1, (h.2.append h2).mono fun _ _ _ hs => hs.far (farT_own h.1 (by decide)) hg⟩
theorem Ens.told (h : Ens w B v n rs l) : ∃ A c, v = .slice A n c ∧ n ≤ c ∧ EnOn w A n l := by
  obtain ⟨A, c, rfl, hc, _, hr⟩ := own_form h.1
  exact ⟨A, c, rfl, hc, rs, hr, h.2.1, fun i r q hr hq => by
    obtain ⟨e1, A, n, c, e2, hs⟩ := h.2.2 i r q hr hq
    exact ⟨e1, A, n, c, e2, hs.1⟩⟩
theorem Ens.len (h : Ens w B v n rs l) : l.length = n := by
  obtain ⟨A, c, _, _, h1⟩ := h.told
  exact PIn.len h1
end
end Go.Proofs.YtmoeilkaadnnoaaGreat.Depot
/-
  The contract of the program's Check: which depots may be; which entries are large. Condition: the slices read as entries; names as long as a text may be.
-/
namespace Go.Proofs.YtmoeilkaadnnoaaGreat.Depot
open Go.RowKit Go.Lib Go.Proofs.YtmoeilkaadnnoaaGreat.Span Go.Proofs.YtmoeilkaadnnoaaGreat.Need Go.Proofs.YtmoeilkaadnnoaaGreat.Mani Go.Proofs.YtmoeilkaadnnoaaGreat.Wire
open Go.Proofs.YtmoeilkaadnnoaaGreat.Label (runes fitL fit_any)
set_option linter.unusedVariables false
set_option maxHeartbeats 2000000 in
theorem largeE_any (l : List En) (A : Option Addr) (n c : Nat) (w : World) (h : EnOn w A n l) (hn : n ≤ 9223372036854775807) :
    Calls Tryz.prog 5 #[.slice A n c] w (Tells w (.bool (largeE l))) := by
  unfold Tells
  have hlen := h.len
  by_cases hb : 30 < n
  · have e : largeE l = true := by unfold largeE; rw [decide_eq_true (by omega)]; rfl
    rw [e]
    clear e h hlen
    go_enter Tryz.func5, Tryz.ntmps5
    go_wp2
    go_ret
    exact ⟨rfl, Below.refl _ _⟩
  · have e : largeE l = l.any bigE := by unfold largeE; rw [decide_eq_false (by omega)]; rfl
    have Hl : Hid (largeE l = l.any bigE) := hide e
    have Hd := hide (fun i q => @anyE_drop l i q)
    clear e
    generalize largeE l = L at *
    have hlen' := hide hlen
    clear hlen
    go_enter Tryz.func5, Tryz.ntmps5
    go_wp2
    go_loopw [3] (fun v wr => ∃ i : Nat, i ≤ n ∧ v = .int .i64 (i : Int) ∧ Hid (L = (l.drop i).any bigE) ∧ Below w.heap.size w wr) (fun v _ => n - (RowKit.intOf v).toNat)
    case atStart => exact ⟨0, by omega, rfl, Hl, Below.refl _ _⟩
    case round =>
      obtain ⟨i, hi, rfl, hf, hbw⟩ := hrel
      by_cases hlt : i < n
      · obtain ⟨ad, q, A', n', c', rfl, hbl, hx, hs, c1, c2⟩ := PIn.at_ (EnIn.below h hbw) hlt
        have hq := (Hd.out i q hx)
        obtain ⟨nm, s⟩ := q
        have hsl : s.length = n' := by have : (bcs s).length = n' * 1 := hs.1; rw [bcs_length] at this; omega
        have Hq : Hid ((l.drop i).any bigE = (decide (200 < nm.size) || decide (9000 < n') || (l.drop (i + 1)).any bigE)) := hide (by rw [hq, ← hsl]; rfl)
        simp only [] at c1 c2
        have hf2 := hf.out.trans Hq.out
        have Hf2 := hide hf2
        clear hq hx hsl hs hf Hq hf2 h Hd
        by_cases h1 : 200 < nm.size
        · have e : L = true := by rw [Hf2.out, decide_eq_true h1]; rfl
          subst e
          clear Hf2
          have h1z : (200 : Int) < (nm.size : Int) := by omega
          go_wp2
          go_ret
          exact ⟨rfl, hbw⟩
        · have h1z : ¬ (200 : Int) < (nm.size : Int) := by omega
          by_cases h2 : 9000 < n'
          · have e : L = true := by rw [Hf2.out, decide_eq_true h2]; simp
            subst e
            clear Hf2
            have h2z : (9000 : Int) < (n' : Int) := by omega
            go_wp2
            go_ret
            exact ⟨rfl, hbw⟩
          · have h2z : ¬ (9000 : Int) < (n' : Int) := by omega
            have e : Hid (L = (l.drop (i + 1)).any bigE) := hide (by rw [Hf2.out, decide_eq_false h1, decide_eq_false h2]; rfl)
            clear Hf2
            go_wp2
            go_roundw
            case rel => exact ⟨i + 1, by omega, by go_num, e, hbw⟩
            case measure => simp [RowKit.intOf]; omega
      · have hi2 : i = n := by omega
        have e : Hid (L = false) := hide (by rw [hf.out, List.drop_of_length_le (by have := hlen'.out; omega)]; rfl)
        clear hf
        go_wp2
        go_ret
        exact ⟨by rw [e.out]; rfl, hbw⟩
end Go.Proofs.YtmoeilkaadnnoaaGreat.Depot
