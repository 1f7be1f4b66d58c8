/-
  Some texts of this claim, one behind the other: ProofLeaves. What each proves, and its condition, stands at its head.
-/
import Derived.Test.YtdggnakjfcmnmaaZB28
import Derived.Test.YtdggnakjfcmnmaaZB36
import Derived.Test.YtdggnakjfcmnmaaZB29
import Derived.Maps.OwnSet
/-
  The contract of the program's Leaves: the names that a proof reads of, by way of a map and its sorted keys. Condition: a proof that may be, of no more than 1,000 steps.
-/
namespace Go.Proofs.Ytdggnakjfcmnmaa.Proof
open Go Go.RowKit Go.Lib Go.Proofs.Ytdggnakjfcmnmaa.Span Go.Proofs.Ytdggnakjfcmnmaa.Need Go.Proofs.Ytdggnakjfcmnmaa.Mani
set_option linter.unusedVariables false
def allL (l : List Sp) : List ByteArray := (l.filter fun s => decide (s.kind = 2 ∨ s.kind = 3)).map Sp.name
theorem allL_take {l : List Sp} {i : Nat} {s : Sp} (h : l[i]? = some s) : allL (l.take (i + 1)) = allL (l.take i) ++ if s.kind = 2 ∨ s.kind = 3 then [s.name] else [] := by
  unfold allL
  rw [List.take_add_one, h, List.filter_append, List.map_append]
  congr 1
  by_cases hk : s.kind = 2 ∨ s.kind = 3
  · simp [hk]
  · simp [hk]
theorem allL_len (l : List Sp) : (allL l).length ≤ l.length := by
  unfold allL
  rw [List.length_map]
  exact List.length_filter_le _ _
theorem fold_leaves (l : List Sp) : foldN (allL l) = leavesT l := by
  have key : ∀ (l : List Sp) (acc : List ByteArray), (allL l).foldl (fun o x => addF x false o) acc = l.foldl leafK acc := by
    intro l
    induction l with
    | nil => intro acc; rfl
    | cons s t ih =>
      intro acc
      rw [List.foldl_cons, ← ih]
      unfold leafK
      by_cases hk : s.kind = 2 ∨ s.kind = 3
      · have : allL (s :: t) = s.name :: allL t := by simp [allL, hk]
        rw [this, List.foldl_cons, if_pos hk]
      · have : allL (s :: t) = allL t := by simp [allL, hk]
        rw [this, if_neg hk]
  exact key l []
theorem key_ofL (x : ByteArray) (h : x.size ≤ maxLen) : keyOf Try.prog 9 (.string x) = some (.string (bytesOf x)) := by
  have hu := Try.underlying9
  simp [keyOf, hu, mapKey, bytesOf]
  exact h
theorem texts_ofL (L : List ByteArray) : (L.map bytesOf).map encStr = tcs L := by
  rw [List.map_map]
  unfold tcs
  refine List.map_congr_left fun x _ => ?_
  simp [encStr, bytesOf]
theorem own_text_same {w : World} {B n c i : Nat} {A : Option Addr} {L : List ByteArray} (h : w.ownsRow B 9 1 (.slice A n c) n (tcs L)) (hi : i < n) :
    ∃ g z, A = some ⟨g, 0, none⟩ ∧ B ≤ g ∧ g < w.heap.size ∧ L[i]? = some z ∧ w.cell? ⟨g, i, none⟩ = some (.string z) ∧ w.frozen? ⟨g, i, none⟩ = false ∧ (w.setCell ⟨g, i, none⟩ (.string z)).ownsRow B 9 1 (.slice A n c) n (tcs L) := by
  have hl := h.1
  rcases h.2 with ⟨hv, hn⟩ | ⟨g, cap, cur, hv, hB, hg, hnc, hm, hcs, ht⟩
  · omega
  · injection hv with e1 e2 e3
    subst e1 e3
    have hb : Blk w g 9 cur := hg
    have hlen : L.length = n := by rw [tcs_length] at hl; omega
    have hz : L[i]? = some (L[i]'(by omega)) := by simp
    have hci : cur[i]? = some (Value.string (L[i]'(by omega))) := by
      have e : (tcs L)[i]? = some (Value.string (L[i]'(by omega))) := by simp [tcs, hz]
      rw [← ht, List.getElem?_take_of_lt (by omega)] at e
      simpa using e
    refine ⟨g, _, rfl, hB, hb.lt, hz, (hb.cell i).trans hci, hb.frozen i, ?_⟩
    have hb2 := hb.set_ i (.string (L[i]'(by omega)))
    have hsame : cur.setIfInBounds i (.string (L[i]'(by omega))) = cur := by
      refine Array.ext_getElem? fun j => ?_
      rw [Array.getElem?_setIfInBounds]
      by_cases e : i = j
      · subst e
        rw [if_pos rfl, hci]
        have := (Array.getElem?_eq_some_iff.1 hci).1
        simp [this]
      · rw [if_neg e]
    rw [hsame] at hb2
    exact ⟨hl, .inr ⟨g, c, cur, rfl, hB, hb2, hnc, hm, hcs, ht⟩⟩
set_option maxHeartbeats 8000000 in
set_option maxRecDepth 100000 in
theorem leavesPf_any (l : List Sp) (A : Option Addr) (n c : Nat) (w : World) (h : PfOn w A n l) (hn : n ≤ 1000) (hsm : ∀ q ∈ l, q.name.size ≤ 1000000000) :
    Calls Try.prog 15 #[.slice A n c] w (MakesT w (leavesT l)) := by
  unfold MakesT
  have Hlen := hide h.len
  have hmm := @run_makeMap Try.prog
  have m0 := World.ownsMap_made w Try.prog 9 (unitElem (H := Unit))
  go_enter Try.func15, Try.ntmps15
  go_wp2
  go_loopw [12] (fun v wr => ∃ (i : Nat), i ≤ n ∧ v = .int .i64 (i : Int) ∧ wr.ownsMap Try.prog 9 (unitElem (H := Unit)) w.heap.size (allL (l.take i)).length (setN (allL (l.take i))) ∧ Below w.heap.size w wr) (fun v _ => n - (RowKit.intOf v).toNat)
  case atStart =>
    refine ⟨0, by omega, rfl, ?_, ?_⟩
    · first | exact m0 | exact m0.alloc _ | (simpa [allL, setN, Maps.setOf] using m0)
    · exact (Below.refl _ _).alloc (Nat.le_refl _) _
  case round =>
    obtain ⟨i, hi, rfl, hM, hb⟩ := hrel
    have hbs := hb.size
    clear hmm m0
    by_cases hlt : i < n
    · obtain ⟨ad, q, rfl, hbl, hx, c0, c1, c2, c3, c4, c5⟩ := PfIn.at_ (PfIn.below h hb) hlt
      have hq := hsm q (List.mem_of_getElem? hx)
      have hst := allL_take hx
      have hcnt : (allL (l.take i)).length ≤ 1000 := by
        have h1 := allL_len (l.take i)
        rw [List.length_take] at h1
        omega
      obtain ⟨k, nm, v, d, a, b⟩ := q
      simp only [] at c0 c1 c2 c3 c4 c5 hq hst
      have hkey := hide (key_ofL nm (by unfold maxLen; omega))
      have hbx := alloc_b (w := wr) (.cells #[.int .i64 k, .string nm, .int .i64 v, .string d, .int .i64 a, .int .i64 b] 40)
      have hM1 := hM.kept (only_of_below hbx none) (by simp)
      have hb2 := hb.trans (hbx.mono hbs)
      have hbs2 := hb2.size
      by_cases hk : k = 2 ∨ k = 3
      · rw [if_pos hk] at hst
        have hst1 : setN (allL (l.take (i + 1))) = (setN (allL (l.take i))).put (.string (bytesOf nm)) (.agg []) := by rw [hst, setN_snoc]
        have hst2 : (allL (l.take (i + 1))).length = (allL (l.take i)).length + 1 := by rw [hst, List.length_append]; rfl
        have Hs1 := hide hst1
        have Hs2 := hide hst2
        clear hst hst1 hst2 hx h hsm hM
        generalize (allL (l.take i)).length = cnt at *
        generalize setN (allL (l.take i)) = D at *
        by_cases hk2 : k = 2
        · have hk21 : (k == 2) = true := beq_iff_eq.2 hk2
          clear hk hk2
          go_wp2_with (first
            | (at_mapUpdate
               refine wpList_mapUpdate_own _ rfl _ _ _ 49 rfl 9 50 (Maps.string_keyed Try.underlying9) Try.underlying49 unitElem w.heap.size cnt D rfl hM1 (by unfold maxLen; omega) _ _ (.string (bytesOf nm)) rfl rfl hkey.out (.agg []) [] unitElem_mk ?_
               intro w3 hM3 hg3
               have hb3 : Below w.heap.size w w3 := hb2.grown hg3 hbs2 (fun k hk => by injection hk with hk; omega)))
          go_roundw
          case rel => exact ⟨i + 1, by omega, by go_num, by rw [Hs1.out, Hs2.out]; exact hM3, hb3⟩
          case measure => simp [RowKit.intOf]; omega
        · have hk21 : (k == 2) = false := beq_eq_false_iff_ne.2 hk2
          have hk31 : (k == 3) = true := beq_iff_eq.2 (hk.resolve_left hk2)
          clear hk hk2
          go_wp2_with (first
            | (at_mapUpdate
               refine wpList_mapUpdate_own _ rfl _ _ _ 49 rfl 9 50 (Maps.string_keyed Try.underlying9) Try.underlying49 unitElem w.heap.size cnt D rfl hM1 (by unfold maxLen; omega) _ _ (.string (bytesOf nm)) rfl rfl hkey.out (.agg []) [] unitElem_mk ?_
               intro w3 hM3 hg3
               have hb3 : Below w.heap.size w w3 := hb2.grown hg3 hbs2 (fun k hk => by injection hk with hk; omega)))
          go_roundw
          case rel => exact ⟨i + 1, by omega, by go_num, by rw [Hs1.out, Hs2.out]; exact hM3, hb3⟩
          case measure => simp [RowKit.intOf]; omega
      · rw [if_neg hk, List.append_nil] at hst
        have hk21 : (k == 2) = false := beq_eq_false_iff_ne.2 fun e => hk (.inl e)
        have hk31 : (k == 3) = false := beq_eq_false_iff_ne.2 fun e => hk (.inr e)
        have Hst := hide hst
        clear hst hx h hsm hM hk
        go_wp2
        go_roundw
        case rel => exact ⟨i + 1, by omega, by go_num, by rw [Hst.out]; exact hM1, hb2⟩
        case measure => simp [RowKit.intOf]; omega
    · have hi2 : i = n := by omega
      subst hi2
      have hal := allL_len l
      rw [List.take_of_length_le (by rw [Hlen.out]; exact Nat.le_refl _)] at hM
      have HK := hide (keys_any w.heap.size wr)
      have HS := hide (sorted_any w.heap.size _ (setN (allL l)) unitElem wr hM (by have := hM.size_le; have := Hlen.out; omega))
      have HN := hide (fun ss hp => @sorted_names Try.prog 9 unitElem wr w.heap.size _ (allL l) hM Try.underlying9 ss hp)
      have Hsz : Hid (∀ x ∈ leavesT l, x.size ≤ 1000000000) := hide fun x hx => by
        obtain ⟨s, hs, _, rfl⟩ := (leaves_mem l x).1 hx
        exact hsm s hs
      have Hfl := hide (fold_leaves l)
      clear h hsm hM hal
      go_upto_region 9 with (first
        | (go_at_call 31
           refine HK.out.mono ?_
           rintro e w1 ⟨rfl, rfl⟩)
        | (go_at_call 30
           refine HS.out.mono ?_
           rintro e w2 ⟨vv, ss, rfl, hp, hrow, hb2⟩))
      have e := HN.out ss hp
      rw [e, texts_ofL, Hfl.out] at hrow
      have hbw : Below w.heap.size w w2 := (hb.alloc hbs _).trans (hb2.mono (by omega))
      have hrow := own_less hrow (show w.heap.size ≤ wr.heap.size + 1 by omega)
      have hlk : ss.length = (leavesT l).length := by have := hrow.1; rw [tcs_length] at this; omega
      have hk1 : ss.length ≤ 1000 := by
        have h1 := leaves_len l l.length
        rw [List.take_of_length_le (Nat.le_refl _)] at h1
        have := Hlen.out
        omega
      obtain ⟨A9, c9, rfl, hc9, hT⟩ := own_texts hrow
      generalize ss.length = k at *
      clear hp e hb2 HN HS HK hb hbs hi hlt hT
      have Hlk := hide hlk
      clear hlk
      obtain ⟨W2, hW2⟩ : ∃ W2, W2 = w2 := ⟨w2, rfl⟩
      subst hW2
      go_wp2
      go_loopw [34] (fun v wx => ∃ (j : Nat), j ≤ k ∧ v = .int .i64 (j : Int) ∧ wx.ownsRow w.heap.size 9 1 (.slice A9 k c9) k (tcs (leavesT l)) ∧ Below w.heap.size w wx) (fun v _ => k - (RowKit.intOf v).toNat)
      case atStart => exact ⟨0, by omega, rfl, hrow, hbw⟩
      case round =>
        obtain ⟨j, hj, rfl, hown, hb⟩ := hrel
        have hbs := hb.size
        clear hrow hbw
        by_cases hlt : j < k
        · obtain ⟨g, z, rfl, hgB, hglt, hz, xc, xf, _⟩ := own_text_same hown hlt
          have hzs := Hsz.out z (List.mem_of_getElem? hz)
          have HC := hide (fun wx => Label.clone_any z wx hzs)
          have Hz := hide hz
          have j1 : (0 : Int) ≤ (j : Int) := by omega
          have j2 : (j : Int) < (k : Int) := by omega
          clear hz hzs
          go_wp2_with (first
            | (go_at_call 29
               refine (HC.out _).mono ?_
               rintro e w3 ⟨rfl, hb3⟩
               obtain ⟨g', z', eA, _, _, hz', xc', xf', hown'⟩ := own_text_same (own_below hown hb3) hlt
               injection eA with eA
               injection eA with eA
               subst eA
               have ez : z = z' := Option.some.inj (Hz.out.symm.trans hz')
               subst ez
               clear hz'
               have hb4 : Below w.heap.size w (w3.setCell ⟨g, j, none⟩ (.string z)) := (hb.trans (hb3.mono hbs)).setCell (p := ⟨g, j, none⟩) hgB _))
          go_roundw
          case rel => exact ⟨j + 1, by omega, by go_num, hown', hb4⟩
          case measure => simp [RowKit.intOf]; omega
        · have hi2 : j = k := by omega
          obtain ⟨A8, c8, e8, _, hT⟩ := own_texts hown
          injection e8 with e1 e2 e3
          subst e1 e3
          go_wp2
          go_ret
          exact ⟨A9, k, ⟨c9, rfl⟩, hT, hb⟩
theorem specLeavesPf : SpecLeavesPf := fun l A n c w h hc hn hok => leavesPf_any l A n c w h hn fun q hq => by
  obtain ⟨i, hi, rfl⟩ := List.getElem_of_mem hq
  have h3 := okPf_steps hok
  have := may_ok (h3.2.1 i l[i] (by simp)) (by omega)
  have := this.2.1
  omega
end Go.Proofs.Ytdggnakjfcmnmaa.Proof
