/-
  Some texts of this claim, one behind the other: FitSearch. What each proves, and its condition, stands at its head.
-/
import Derived.Test.YtjbjdoioallpkaaGreatDoorZ39
import Derived.Test.YtjbjdoioallpkaaGreatDoorZ13
import Derived.Test.YtjbjdoioallpkaaGreatDoorChecked
import Derived.Shelf.Spec.SearchS
/-
  The library's search among names that rise, laid at this program: whether a name is one of them. Condition: no more than 1,000,000 names.
-/
namespace Go.Proofs.YtjbjdoioallpkaaGreatDoor.Fit
open Go Go.RowKit Go.Lib Go.Shelf Go.Proofs.YtjbjdoioallpkaaGreatDoor.Span Go.Proofs.YtjbjdoioallpkaaGreatDoor.Need Go.Proofs.YtjbjdoioallpkaaGreatDoor.Mani Go.Proofs.YtjbjdoioallpkaaGreatDoor.Wire Go.Proofs.YtjbjdoioallpkaaGreatDoor.Depot Go.Proofs.YtjbjdoioallpkaaGreatDoor.Index Go.Proofs.YtjbjdoioallpkaaGreatDoor.Reach Go.Proofs.YtjbjdoioallpkaaGreatDoor.Pick
set_option linter.unusedVariables false
def renB : Ren := ⟨fun | 26 => 69 | 33 => 78 | 34 => 95 | 38 => 101 | n => n, fun | 0 => 0 | 3 => 3 | 4 => 4 | 9 => 9 | 24 => 40 | 40 => 107 | n => n, fun n => n⟩
theorem laysB : Lays2.n26 Tryz.prog renB := {
  mixed := by kernel_rfl
  f26 := Tryz.func69.trans (congrArg some (by kernel_rfl))
  f33 := Tryz.func78.trans (congrArg some (by kernel_rfl))
  f34 := Tryz.func95.trans (congrArg some (by kernel_rfl))
  f38 := Tryz.func101.trans (congrArg some (by kernel_rfl))
  t0 := Tryz.underlying0
  a0 := Tryz.isAgg0
  z0 := Tryz.sizeOf0
  v0 := Tryz.zeroValue0
  t3 := Tryz.underlying3
  a3 := Tryz.isAgg3
  z3 := Tryz.sizeOf3
  v3 := Tryz.zeroValue3
  t4 := Tryz.underlying4
  a4 := Tryz.isAgg4
  z4 := Tryz.sizeOf4
  v4 := Tryz.zeroValue4
  t9 := Tryz.underlying9
  a9 := Tryz.isAgg9
  z9 := Tryz.sizeOf9
  v9 := Tryz.zeroValue9
  t24 := Tryz.underlying40
  a24 := Tryz.isAgg40
  z24 := Tryz.sizeOf40
  v24 := Tryz.zeroValue40
  t40 := Tryz.underlying107
  a40 := Tryz.isAgg107
  z40 := Tryz.sizeOf107
  v40 := Tryz.zeroValue107 }
/-- The names, by their places; behind them the name that is looked for. -/
def nameAt (L : List ByteArray) (x : ByteArray) (j : Nat) : ByteArray := (L[j]?).getD x
theorem first_not (x : ByteArray) : ∀ (L : List ByteArray), RisesN L → ∃ k, k ≤ L.length ∧ (∀ t, t < k → nlt (nameAt L x t) x = true) ∧ ∀ t, k ≤ t → nlt (nameAt L x t) x = false
  | [], _ => ⟨0, Nat.le_refl _, fun t h => by omega, fun t _ => nlt_self x⟩
  | y :: T, h => by
    obtain ⟨h1, h2⟩ := List.pairwise_cons.1 h
    obtain ⟨k, k1, k2, k3⟩ := first_not x T h2
    cases g : nlt y x with
    | true =>
      refine ⟨k + 1, by simpa using k1, fun t ht => ?_, fun t ht => ?_⟩
      · cases t with
        | zero => exact g
        | succ t => exact k2 t (by omega)
      · cases t with
        | zero => omega
        | succ t => exact k3 t (by omega)
    | false =>
      refine ⟨0, Nat.zero_le _, fun t ht => by omega, fun t _ => ?_⟩
      cases t with
      | zero => exact g
      | succ t =>
        show nlt ((T[t]?).getD x) x = false
        cases e : T[t]? with
        | none => exact nlt_self x
        | some z =>
          cases f : nlt z x with
          | false => exact f
          | true =>
            have := nlt_trans (h1 z (List.mem_of_getElem? e)) f
            rw [g] at this
            cases this
theorem search_told {L : List ByteArray} (h : RisesN L) (x : ByteArray) : ∃ k, k ≤ L.length ∧ Lib.bsGo (fun t => Op.bytesLess (nameAt L x t).toList x.toList) L.length 0 L.length = k ∧ decide (k < L.length ∧ nameAt L x k = x) = memB x L := by
  obtain ⟨k, k1, k2, k3⟩ := first_not x L h
  refine ⟨k, k1, Lib.bsGo_spec _ k k2 k3 _ _ _ (by omega) (Nat.zero_le _) k1, ?_⟩
  rw [Bool.eq_iff_iff, decide_eq_true_iff, memB_iff]
  constructor
  · rintro ⟨h1, h2⟩
    unfold nameAt at h2
    rw [List.getElem?_eq_getElem h1] at h2
    have h3 : L[k] = x := h2
    rw [← h3]
    exact List.getElem_mem _
  · intro hx
    obtain ⟨j, hj, e⟩ := List.getElem_of_mem hx
    have ej : nameAt L x j = x := by unfold nameAt; rw [List.getElem?_eq_getElem hj]; exact e
    rcases Nat.lt_trichotomy j k with g | g | g
    · have := k2 j g
      rw [ej, nlt_self] at this
      cases this
    · subst g
      exact ⟨hj, ej⟩
    · have h1 : k < L.length := by omega
      have h3 := List.pairwise_iff_getElem.1 h k j h1 hj g
      rw [e] at h3
      have h4 := k3 k (Nat.le_refl _)
      unfold nameAt at h4
      rw [List.getElem?_eq_getElem h1] at h4
      have h5 : nlt L[k] x = false := h4
      rw [h3] at h5
      cases h5
theorem spot_none {w : World} {ad : Addr} {v : Value} (h : w.cell? ad = some v) : ad.spot = none := by
  unfold World.cell? at h
  split at h
  · split at h
    · cases h
    · rename_i g
      cases e : ad.spot with
      | none => rfl
      | some _ => rw [e] at g; exact absurd rfl g
  · cases h
theorem bsearch_any (L : List ByteArray) (x : ByteArray) (A : Option Addr) (n c : Nat) (w : World) (h : TxOn w A n L) (hr : RisesN L) (hn : n ≤ 1000000) :
    Calls Tryz.prog 69 #[.slice A n c, .string x] w fun e w' => (∃ i : Int, e = .returned (.tuple #[.int .i64 i, .bool (memB x L)])) ∧ Below w.heap.size w w' := by
  have hlen := h.len
  rcases Nat.eq_zero_or_pos n with rfl | hp
  · have e : L = [] := List.eq_nil_of_length_eq_zero hlen
    subst e
    refine (Any2.slices_BinarySearch_string_empty laysB A c x w).mono ?_
    rintro e w' ⟨rfl, rfl⟩
    exact ⟨⟨0, rfl⟩, Below.refl _ _⟩
  · obtain ⟨ad, z, rfl, had, hz, hc⟩ := tcs_at h hp
    have hs : ad.spot = none := spot_none (by simpa [Addr.add] using hc)
    obtain ⟨b, o, s⟩ := ad
    simp only [] at hs
    subst hs
    obtain ⟨k, k1, k2, k3⟩ := search_told hr x
    rw [hlen] at k1 k2 k3
    refine (Any2.slices_BinarySearch_string laysB b o n c (nameAt L x) x w (by omega) fun j hj => ?_).mono ?_
    · obtain ⟨ad', z', e', _, hz', hc'⟩ := tcs_at h hj
      injection e' with e'
      subst e'
      have ez : nameAt L x j = z' := by unfold nameAt; rw [hz']; rfl
      rw [ez, ← hc']
      unfold Addr.add
      by_cases g : j = 0
      · subst g; simp
      · rw [if_neg g]
    · rintro e w' ⟨rfl, q, rfl⟩
      rw [k2, k3]
      exact ⟨⟨_, rfl⟩, below_drewN (Below.refl _ _) _⟩
end Go.Proofs.YtjbjdoioallpkaaGreatDoor.Fit
