/-
  The contract of join: lists as one, new. Condition: no more than 100,000 picks in all, names of at most 1,000,000,000 bytes.
-/
import Derived.Test.YtnkcjemobljpdaaDoorPickCells
import Derived.Test.YtnkcjemobljpdaaDoorLabelClone
import Derived.Deep.RegionHeld3
namespace Go.Proofs.YtnkcjemobljpdaaDoor.Pick
open Go Go.RowKit Go.Lib Go.Proofs.YtnkcjemobljpdaaDoor.Need
set_option linter.unusedVariables false
/-- A slice that reads as slices of picks. -/
def LsIn (w : World) (B : Nat) (A : Option Addr) (m : Nat) (ps : List (List Pk)) : Prop :=
  ps.length = m ∧ (0 < m → ∃ ad, A = some ad ∧ ad.block < B ∧ ∀ j p, ps[j]? = some p → ∃ A' n' c', w.cell? (ad.add j) = some (.slice A' n' c') ∧ PkIn w B A' n' p)
theorem LsIn.below {w w' : World} {B m : Nat} {A : Option Addr} {ps : List (List Pk)} (h : LsIn w B A m ps) (hb : Below B w w') : LsIn w' B A m ps :=
  ⟨h.1, fun hm => by
    obtain ⟨ad, hA, hB, hc⟩ := h.2 hm
    refine ⟨ad, hA, hB, fun j p hp => ?_⟩
    obtain ⟨A', n', c', h1, h2⟩ := hc j p hp
    exact ⟨A', n', c', (hb.cell (by rw [block_of_add]; exact hB)).trans h1, h2.below hb⟩⟩
theorem flat_take (ps : List (List Pk)) {j : Nat} {p : List Pk} (h : ps[j]? = some p) : (ps.take (j + 1)).flatten = (ps.take j).flatten ++ p := by
  rw [take_snoc' ps j p h]; simp
theorem flat_len (ps : List (List Pk)) (j : Nat) : (ps.take j).flatten.length ≤ ps.flatten.length := by
  have : ps.flatten = (ps.take j).flatten ++ (ps.drop j).flatten := by rw [← List.flatten_append, List.take_append_drop]
  rw [this, List.length_append]; omega
theorem flat_len2 (ps : List (List Pk)) {j : Nat} {p : List Pk} (h : ps[j]? = some p) : (ps.take j).flatten.length + p.length ≤ ps.flatten.length := by
  have := flat_len ps (j + 1)
  rw [flat_take ps h, List.length_append] at this
  exact this
set_option maxHeartbeats 8000000 in
set_option maxRecDepth 100000 in
theorem join_any (ps : List (List Pk)) (A : Option Addr) (m c : Nat) (w : World) (h : LsIn w w.heap.size A m ps) (hl : ∀ p ∈ ps, ∀ q ∈ p, q.1.size ≤ 1000000000) (hm : m ≤ 1000) (hn : ps.flatten.length ≤ 100000) :
    Calls Tryd.prog 25 #[.slice A m c] w (MakesP w ps.flatten) := by
  obtain ⟨i0, hi0, hz0, hz1, hz2⟩ := info_parts info_pick
  unfold MakesP
  have Hlen := hide h.1
  have Ht := hide (fun j p => @flat_take ps j p)
  have Hn := hide (fun j p (h : ps[j]? = some p) => Nat.le_trans (flat_len2 ps h) hn)
  have Hz : Hid ((ps.take 0).flatten = []) := hide rfl
  have He : Hid ((ps.take m).flatten = ps.flatten) := hide (by rw [List.take_of_length_le (by have := h.1; omega)])
  generalize ps.flatten = R at *
  go_enter Tryd.func25, Tryd.ntmps25
  go_wp2
  go_loopw [3, 10] (fun u v wr => ∃ (j : Nat) (Ao : Option Addr) (no co : Nat), j ≤ m ∧ u = .slice Ao no co ∧ v = .int .i64 (j : Int) ∧ NewP wr w.heap.size Ao no co (ps.take j).flatten ∧ Below w.heap.size w wr) (fun _ v _ => m - (RowKit.intOf v).toNat)
  case atStart => exact ⟨0, none, 0, 0, by omega, rfl, rfl, by rw [Hz.out]; exact NewP.nil_ _ _, Below.refl _ _⟩
  case round =>
    obtain ⟨j, Ao, no, co, hj, rfl, rfl, hN, hb⟩ := hrel
    by_cases hlt : j < m
    · obtain ⟨ad, rfl, hB, hc⟩ := h.2 (by omega)
      obtain ⟨p, hp⟩ : ∃ p, ps[j]? = some p := ⟨ps[j]'(by have := Hlen.out; omega), by simp⟩
      obtain ⟨A', n', c', c0, hR⟩ := hc j p hp
      have c1 := (hb.cell (p := ad.add j) (by rw [block_of_add]; exact hB)).trans c0
      have hpl := hide (fun q hq => hl p (List.mem_of_getElem? hp) q hq)
      have hfl := Hn.out j p hp
      have hft := hide (Ht.out j p hp)
      have hpn := hR.len
      have hno := hN.1
      clear hc hp
      generalize (ps.take j).flatten = F at *
      obtain ⟨F2, hF2⟩ : ∃ F2, F2 = (ps.take (j + 1)).flatten := ⟨_, rfl⟩
      rw [← hF2] at hft
      have hj2 := hide hF2.symm
      clear hF2
      have hbj := hb
      have Hpn := hide hpn
      have hlim : no + n' ≤ 100000 := by omega
      clear hpn hno hfl
      go_wp2
      go_loopw [3, 16] (fun u v wq => ∃ (i : Nat) (A2 : Option Addr) (n2 c2 : Nat), i ≤ n' ∧ u = .slice A2 n2 c2 ∧ v = .int .i64 (i : Int) ∧ n2 = no + i ∧ NewP wq w.heap.size A2 n2 c2 (F ++ p.take i) ∧ Below w.heap.size w wq) (fun _ v _ => n' - (RowKit.intOf v).toNat)
      case atStart => exact ⟨0, Ao, no, co, by omega, rfl, rfl, by omega, by simpa using hN, hbj⟩
      case round =>
        obtain ⟨i, A2, n2, c2, hi, rfl, rfl, hn2, hN2, hb2⟩ := hrel
        have hbs := hb2.size
        by_cases hlt2 : i < n'
        · obtain ⟨ad', q, rfl, hbl, hx, k1, k2⟩ := PkIn.at_ (hR.below hb2) hlt2
          have hq1 := hpl.out q (List.mem_of_getElem? hx)
          have hn3 : n2 < 100000 := by omega
          have Hn2 := hide hn2
          clear hn2
          have hts := hide (take_snoc' p i q hx)
          obtain ⟨x, v⟩ := q
          simp only [] at k1 k2 hq1 hts
          have HC := hide (fun wx => Label.clone_any x wx hq1)
          have hown := hN2.2.2.1
          clear hx hR hN hq1
          go_upto_region 8 with fail
          obtain ⟨V, hV⟩ : ∃ V, V = wr.alloc (.cells #[.string x, .int .i64 v] 24) := ⟨_, rfl⟩
          have hbV : Below w.heap.size w V := by rw [hV]; exact hb2.alloc hbs _
          have hblk : Blk V wr.heap.size 24 #[.string x, .int .i64 v] := by rw [hV]; exact Blk.new wr _ _
          have hownV : V.ownsRow w.heap.size 24 2 (.slice A2 n2 c2) n2 (pks (F ++ p.take i)) := by rw [hV]; exact own_below hown (alloc_b wr _)
          have hlt9 := fun k hk => (hown.lt k hk).2
          rw [← hV]
          clear hV k1 k2
          have c0' : V.cell? ⟨wr.heap.size, 0, none⟩ = some (.string x) ∧ V.cell? ⟨wr.heap.size, 1, none⟩ = some (.int .i64 v) := ⟨(hblk.cell 0).trans rfl, (hblk.cell 1).trans rfl⟩
          have h02 : 0 < 2 := by omega
          have hmx : n2 + 1 ≤ maxLen := by unfold maxLen; omega
          have hby : (n2 + 1) * 24 ≤ 140737488355328 := by omega
          generalize wr.heap.size = g0 at *
          go_region_held3 (fun w' => w'.cell? ⟨g0, 0, none⟩ = some (.string x) ∧ w'.cell? ⟨g0, 1, none⟩ = some (.int .i64 v)) (first | exact e6 | exact e5' | exact e5 | exact c0' | go_keep)
            (first
              | (go_at_call 35
                 refine (HC.out _).mono ?_
                 rintro e w5 ⟨rfl, hb5⟩
                 have hb5' : Below V.heap.size V w5 := ((Below.refl _ V).drew).trans hb5
                 have hblk5 := hblk.below hb5' hblk.lt
                 have hblk6 := hblk5.alloc (.cells #[.string x, .int .i64 v] 24)
                 have e5 : w5.cell? ⟨g0, 0, none⟩ = some (.string x) ∧ w5.cell? ⟨g0, 1, none⟩ = some (.int .i64 v) := ⟨(hblk5.cell 0).trans rfl, (hblk5.cell 1).trans rfl⟩
                 have e5' := (show (w5.alloc (.cells #[.string x, .int .i64 v] 24)).cell? ⟨g0, 0, none⟩ = some (.string x) ∧ (w5.alloc (.cells #[.string x, .int .i64 v] 24)).cell? ⟨g0, 1, none⟩ = some (.int .i64 v) from ⟨(hblk6.cell 0).trans rfl, (hblk6.cell 1).trans rfl⟩)
                 have hb6 : Below w.heap.size w w5 := hbV.trans (hb5'.mono hbV.size)
                 have hb7 := hb6.alloc hb6.size (.cells #[.string x, .int .i64 v] 24)
                 have hown5 := own_below (own_below hownV hb5') (alloc_b w5 (.cells #[.string x, .int .i64 v] 24))
                 have hrd5 := reads_pick w5 x v w5.heap.size rfl
                 have hne9 : ∀ k, (Value.slice A2 n2 c2).ownBlock = some k → k ≠ g0 := fun k hk e => by have := hlt9 k hk; omega)
              | (refine wp_append_any _ (.tmp 20) (.tmp 27) _ rfl w.heap.size 24 i0 _ 2 24 Tryd.underlying22 hi0 hz0 hz1 hz2 rfl h02 _ n2 (pks (F ++ p.take i)) rfl hown5 _ _ 1 _ _ rfl hrd5 (pks_one _) hmx hby hb7.size ?_
                 intro v6 w6 hown6 hg6 hat6
                 have hb8 : Below w.heap.size w w6 := hb7.grown hg6 hb7.size (fun k hk => (hown5.lt k hk).1)
                 have hblk7 := hblk6.grown hg6 (fun e => hne9 g0 e.symm rfl)
                 have e6 : w6.cell? ⟨g0, 0, none⟩ = some (.string x) ∧ w6.cell? ⟨g0, 1, none⟩ = some (.int .i64 v) := ⟨(hblk7.cell 0).trans rfl, (hblk7.cell 1).trans rfl⟩
                 rw [← pks_append] at hown6
                 obtain ⟨A6, c6, rfl, hN6⟩ := newP_of_own hown6))
          rw [List.append_assoc, ← hts.out] at hN6
          go_wp2
          go_roundw
          case rel => exact ⟨i + 1, A6, n2 + 1, c6, by omega, rfl, by go_num, by have := Hn2.out; omega, hN6, hb8⟩
          case measure => simp [RowKit.intOf]; omega
        · have e1 : Hid (F ++ p.take i = F2) := hide (by rw [hft.out, List.take_of_length_le (by have := Hpn.out; omega)])
          rw [e1.out] at hN2
          clear hN e1
          go_wp2
          go_roundw
          case rel => exact ⟨j + 1, A2, n2, c2, by omega, rfl, by go_num, by rw [hj2.out]; exact hN2, hb2⟩
          case measure => simp [RowKit.intOf]; omega
    · have hj2 : j = m := by omega
      subst hj2
      rw [He.out] at hN
      go_wp2
      go_ret
      exact ⟨Ao, no, co, rfl, hN.less (Nat.zero_le _), hb⟩
end Go.Proofs.YtnkcjemobljpdaaDoor.Pick
