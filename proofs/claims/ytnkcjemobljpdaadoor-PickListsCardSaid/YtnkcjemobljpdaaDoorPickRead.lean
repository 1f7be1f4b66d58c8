/-
  The contract of Read at what Show writes: those picks are read. Condition: no more than 100 picks that may be; the tables hold what the texts lay in them.
-/
import Derived.Test.YtnkcjemobljpdaaDoorPickRead1
import Derived.Test.YtnkcjemobljpdaaDoorPickCheck
namespace Go.Proofs.YtnkcjemobljpdaaDoor.Pick
open Go Go.RowKit Go.Lib Go.Shelf Go.Proofs.YtnkcjemobljpdaaDoor.Need
open Go.Proofs.YtnkcjemobljpdaaDoor.Label (runes fitL)
set_option linter.unusedVariables false
theorem split_all {l : List Pk} (h : Fits1 l) (h0 : l ≠ []) : countB (str (showB l)) ⟨#[44, 32]⟩ + 1 = l.length ∧ splitB ⟨#[44, 32]⟩ 0 (countB (str (showB l)) ⟨#[44, 32]⟩) (str (showB l)) = l.map fun q => str (pickB q) := by
  cases l with
  | nil => exact absurd rfl h0
  | cons q t =>
    obtain ⟨h1, h2⟩ := split_show t q h
    have ec : countB (str (showB (q :: t))) ⟨#[44, 32]⟩ = t.length := h1
    refine ⟨by rw [ec]; rfl, ?_⟩
    rw [ec]
    have h3 := splitB_data ⟨#[44, 32]⟩ 0 t.length (str (showB (q :: t)))
    have h4 : splitK (⟨#[44, 32]⟩ : ByteArray).data.toList 0 t.length (str (showB (q :: t))).data.toList = (q :: t).map pickB := h2
    rw [h4] at h3
    have h5 : ∀ (xs : List ByteArray), xs = (xs.map (·.data.toList)).map str := fun xs => by
      rw [List.map_map]
      induction xs with
      | nil => rfl
      | cons x xs ih => rw [List.map_cons, ← ih]; show x :: xs = str x.data.toList :: xs; rw [str_of]
    rw [h5 (splitB _ _ _ _), h3, List.map_map]
    rfl
set_option maxHeartbeats 4000000 in
set_option maxRecDepth 100000 in
theorem readP_any (l : List Pk) (w : World) (hok : okP l = true) (hn : l.length ≤ 100) (hT : TabsP w) :
    Calls Tryd.prog 19 #[.string (str (showB l))] w fun e w' => ∃ A n c, e = .returned (.tuple #[.slice A n c, .bool true]) ∧ NewP w' 0 A n c l ∧ Below w.heap.size w w' := by
  obtain ⟨i0, hi0, hz0, hz1, hz2⟩ := info_parts info_pick
  obtain ⟨hri, hall0⟩ := okP_iff.1 hok
  have hf1 : Fits1 l := fun q hq => (hall0 q hq).1
  have hsz : (str (showB l)).size ≤ 4000 := by rw [str_size]; have := showB_len hf1; omega
  by_cases h0 : l = []
  · subst h0
    have e : str (showB []) = ⟨#[110, 111, 116, 104, 105, 110, 103]⟩ := rfl
    rw [e]
    clear e hf1 hsz hall0 hri hok
    go_enter Tryd.func19, Tryd.ntmps19
    go_wp2
    go_ret2
    exact ⟨none, 0, 0, rfl, NewP.nil_ _ _, Below.refl _ _⟩
  · have hne : ((str (showB l)).toList == [110, 111, 116, 104, 105, 110, 103]) = false := by
      rw [str_toList]
      refine beq_eq_false_iff_ne.2 fun e => ?_
      cases l with
      | nil => exact h0 rfl
      | cons q t => exact show_ne e
    have hs4 : ¬ (4000 : Int) < (((str (showB l)).size : Nat) : Int) := by omega
    have HS := hide (split_any (str (showB l)) w (by omega) hT.2)
    obtain ⟨ec, es⟩ := split_all hf1 h0
    rw [ec, es] at HS
    obtain ⟨C, hC⟩ : ∃ C, C = ((l.map fun q => str (pickB q)).map Value.string).toArray := ⟨_, rfl⟩
    rw [← hC] at HS
    have HC := hide (fun j q (hq : l[j]? = some q) => show C[j]? = some (Value.string (str (pickB q))) by
      rw [hC, List.getElem?_toArray, List.getElem?_map, List.getElem?_map, hq]; rfl)
    have HR := hide (fun q (hq : q ∈ l) wx (hbx : Below w.heap.size w wx) => read1_any q wx (hall0 q hq).1 (hall0 q hq).2 (hT.below hbx))
    have HK := hide (fun Ax nx cx wx (hx : PkOn wx Ax nx l) (hbx : Below w.heap.size w wx) => checkP_any l Ax nx cx wx hx (fun q hq => by have := (name_plain (hall0 q hq).1).1; have : q.1.size = q.1.data.toList.length := rfl; omega) (by have := hx.len; omega) (hT.below hbx).1)
    rw [hok] at HK
    obtain ⟨n, hnl⟩ : ∃ n, n = l.length := ⟨_, rfl⟩
    rw [← hnl] at HS hn
    have Hnl := hide hnl
    have Hall : Hid (l.take n = l) := hide (by rw [hnl]; exact List.take_length)
    clear hC ec es h0 hf1 hri hok hnl hall0
    generalize str (showB l) = s at *
    obtain ⟨W, hW⟩ : ∃ W, W = w.alloc (.cells C 9) := ⟨_, rfl⟩
    have hbW : Below w.heap.size w W := by rw [hW]; exact alloc_b _ _
    have hBC : Blk W w.heap.size 9 C := by rw [hW]; exact Blk.new _ _ _
    have hgW := hBC.lt
    rw [← hW] at HS
    clear hW
    go_enter Tryd.func19, Tryd.ntmps19
    go_wp2_with (go_at_call 28
                 refine HS.out.mono ?_
                 rintro e W ⟨rfl, rfl⟩)
    generalize w.heap.size = g0 at hBC hgW ⊢
    go_loopw [4, 19] (fun u v wr => ∃ (i : Nat) (Ao : Option Addr) (co : Nat), i ≤ n ∧ u = .slice Ao i co ∧ v = .int .i64 (i : Int) ∧ NewP wr W.heap.size Ao i co (l.take i) ∧ Below W.heap.size W wr) (fun _ v _ => n - (RowKit.intOf v).toNat)
    case atStart => exact ⟨0, none, 0, by omega, rfl, rfl, NewP.nil_ _ _, Below.refl _ _⟩
    case round =>
      obtain ⟨i, Ao, co, hi, rfl, rfl, hN, hb⟩ := hrel
      have hbs := hb.size
      by_cases hlt : i < n
      · obtain ⟨q, hq⟩ : ∃ q, l[i]? = some q := ⟨l[i]'(by have := Hnl.out; omega), by simp⟩
        have c1 : wr.cell? ⟨g0, i, none⟩ = some (.string (str (pickB q))) := ((hBC.below hb hgW).cell i).trans (HC.out i q hq)
        have HR1 := hide (fun wx (hbx : Below W.heap.size W wx) => HR.out q (List.mem_of_getElem? hq) wx (hbW.trans (hbx.mono hbW.size)))
        have hts := hide (take_snoc' l i q hq)
        obtain ⟨x, v⟩ := q
        simp only [] at HR1 hts
        have hown := hN.2.2.1
        clear hq
        generalize str (pickB (x, v)) = sx at *
        go_wp2_with (first
          | (go_at_call 29
             refine (HR1.out _ hb).mono ?_
             rintro e w5 ⟨rfl, hb5⟩
             have hb6 : Below W.heap.size W w5 := hb.trans (hb5.mono hbs)
             have hb7 := hb6.alloc hb6.size (.cells #[.string x, .int .i64 v] 24)
             have hown5 := own_below (own_below hown hb5) (alloc_b w5 (.cells #[.string x, .int .i64 v] 24)))
          | (at_builtin
             refine wpList_append_any _ rfl (.tmp 30) (.tmp 32) _ rfl W.heap.size 24 i0 _ 2 24 Tryd.underlying22 hi0 hz0 hz1 hz2 rfl (by omega) _ _ _ rfl
               (own_below hown5 ?_) _ _ 1 _ _ rfl (reads_pick _ x v _ (by simp)) (pks_one _) (by unfold maxLen; omega) (by omega) (by have := hb7.size; simp at this ⊢; omega) ?_
             · exact (Below.refl _ _).alloc (Nat.le_refl _) _
             intro v2 w2 hown2 hg2 hat2
             have hb2 : Below W.heap.size W w2 := (hb7.alloc hb7.size _).grown hg2 (by have := hb7.size; simp at this ⊢; omega) (fun k hk => (hown5.lt k hk).1)
             rw [← pks_append, ← hts.out] at hown2
             obtain ⟨A2, c2', rfl, hN2⟩ := newP_of_own hown2))
        go_roundw
        case rel => exact ⟨i + 1, A2, c2', by omega, rfl, by go_num, hN2, hb2⟩
        case measure => simp [RowKit.intOf]; omega
      · have hi2 : i = n := by omega
        subst hi2
        rw [Hall.out] at hN
        have hbw := hbW.trans (hb.mono hbW.size)
        go_wp2_with (go_at_call 7
                     refine (HK.out _ _ _ _ hN.2.2.2 hbw).mono ?_
                     rintro e w6 ⟨rfl, hb6⟩)
        go_ret2
        exact ⟨Ao, i, co, rfl, (hN.below hb6).less (Nat.zero_le _), hbw.trans (hb6.mono hbw.size)⟩
end Go.Proofs.YtnkcjemobljpdaaDoor.Pick
