/-
  Some texts of this claim, one behind the other: ManiNamesM, ManiRefNames. What each proves, and its condition, stands at its head.
-/
import Derived.Test.YtdggnakjfcmnmaaZB25
import Derived.Sort.KeysCollected
import Derived.Test.YtdggnakjfcmnmaaZB6
/-
  Plain mathematics of names: a name put into names that rise, once; the names that releases need. No program.
-/
namespace Go.Proofs.Ytdggnakjfcmnmaa.Mani
open Go Go.RowKit Go.Lib Go.Proofs.Ytdggnakjfcmnmaa.Span Go.Proofs.Ytdggnakjfcmnmaa.Need
set_option linter.unusedVariables false
def addF (x : ByteArray) : Bool → List ByteArray → List ByteArray
  | i, [] => if i = true then [] else [x]
  | i, y :: t => if i = true then y :: addF x i t else if nlt x y = true then x :: y :: addF x true t else if x = y then x :: addF x true t else y :: addF x i t
theorem addF_true (x : ByteArray) (l : List ByteArray) : addF x true l = l := by
  induction l with
  | nil => rfl
  | cons y t ih => rw [addF, if_pos rfl, ih]
theorem addF_lt {x y : ByteArray} {t : List ByteArray} (h : nlt x y = true) : addF x false (y :: t) = [x, y] ++ addF x true t := by rw [addF, if_neg (by simp), if_pos h]; rfl
theorem addF_eq {x y : ByteArray} {t : List ByteArray} (h : x = y) : addF x false (y :: t) = [x] ++ addF x true t := by rw [addF, if_neg (by simp), if_neg (by rw [h, nlt_self]; simp), if_pos h]; rfl
theorem addF_gt {x y : ByteArray} {t : List ByteArray} (h : nlt y x = true) : addF x false (y :: t) = [y] ++ addF x false t := by rw [addF, if_neg (by simp), if_neg (by rw [nlt_asymm h]; simp), if_neg (fun e => by rw [e, nlt_self] at h; cases h)]; rfl
theorem drop_cons_at {l : List ByteArray} {i : Nat} {y : ByteArray} (h : l[i]? = some y) : l.drop i = y :: l.drop (i + 1) := by
  obtain ⟨hi, e⟩ := List.getElem?_eq_some_iff.1 h
  rw [List.drop_eq_getElem_cons hi, e]
theorem addF_len (x : ByteArray) (l : List ByteArray) : (addF x false l).length ≤ l.length + 1 := by
  induction l with
  | nil => simp [addF]
  | cons y t ih =>
    rcases tri x y with ⟨h, _⟩ | ⟨_, _, h⟩ | ⟨_, h, _⟩
    · rw [addF_lt h, addF_true]; simp
    · rw [addF_eq (of_decide_eq_true (by rw [← eq_names]; exact h)), addF_true]; simp
    · rw [addF_gt h]; simp; omega
def RisesN (l : List ByteArray) : Prop := l.Pairwise fun x y => nlt x y = true
theorem addF_mem (x : ByteArray) (l : List ByteArray) {z : ByteArray} : z ∈ addF x false l ↔ z = x ∨ z ∈ l := by
  induction l with
  | nil => simp [addF]
  | cons y t ih =>
    rcases tri x y with ⟨h, _⟩ | ⟨_, _, h⟩ | ⟨_, h, _⟩
    · rw [addF_lt h, addF_true]; simp
    · have e : x = y := of_decide_eq_true (by rw [← eq_names]; exact h)
      rw [addF_eq e, addF_true]
      subst e
      simp
    · rw [addF_gt h, List.singleton_append, List.mem_cons, List.mem_cons, ih]
      constructor
      · rintro (h | h | h)
        · exact .inr (.inl h)
        · exact .inl h
        · exact .inr (.inr h)
      · rintro (h | h | h)
        · exact .inr (.inl h)
        · exact .inl h
        · exact .inr (.inr h)
theorem addF_rises (x : ByteArray) {l : List ByteArray} (hl : RisesN l) : RisesN (addF x false l) := by
  induction l with
  | nil => exact List.pairwise_singleton _ _
  | cons y t ih =>
    obtain ⟨h1, h2⟩ := List.pairwise_cons.1 hl
    rcases tri x y with ⟨h, _⟩ | ⟨_, _, h⟩ | ⟨_, h, _⟩
    · rw [addF_lt h, addF_true]
      refine List.pairwise_cons.2 ⟨fun z hz => ?_, hl⟩
      rcases List.mem_cons.1 hz with rfl | hz
      · exact h
      · exact nlt_trans h (h1 z hz)
    · rw [addF_eq (of_decide_eq_true (by rw [← eq_names]; exact h)), addF_true]
      have e : x = y := of_decide_eq_true (by rw [← eq_names]; exact h)
      subst e
      exact hl
    · rw [addF_gt h]
      refine List.pairwise_cons.2 ⟨fun z hz => ?_, ih h2⟩
      rcases (addF_mem x t).1 hz with rfl | hz
      · exact h
      · exact h1 z hz
def foldN (acc : List ByteArray) : List ByteArray := acc.foldl (fun o x => addF x false o) []
theorem fold_ok (acc : List ByteArray) : ∀ (o : List ByteArray), RisesN o → RisesN (acc.foldl (fun o x => addF x false o) o) ∧ ∀ z, z ∈ acc.foldl (fun o x => addF x false o) o ↔ z ∈ o ∨ z ∈ acc := by
  induction acc with
  | nil => intro o h; exact ⟨h, fun z => by simp⟩
  | cons x t ih =>
    intro o h
    obtain ⟨h1, h2⟩ := ih (addF x false o) (addF_rises x h)
    refine ⟨h1, fun z => ?_⟩
    rw [List.foldl_cons, h2, addF_mem, List.mem_cons]
    constructor
    · rintro ((h | h) | h)
      · exact .inr (.inl h)
      · exact .inl h
      · exact .inr (.inr h)
    · rintro (h | h | h)
      · exact .inl (.inr h)
      · exact .inl (.inl h)
      · exact .inr h
theorem foldN_rises (acc : List ByteArray) : RisesN (foldN acc) := (fold_ok acc [] List.Pairwise.nil).1
theorem foldN_mem (acc : List ByteArray) {z : ByteArray} : z ∈ foldN acc ↔ z ∈ acc := by
  have := (fold_ok acc [] List.Pairwise.nil).2 z
  simpa [foldN] using this
def namesS (s : List Nd) : List ByteArray := s.map Prod.fst
def allN (l : List Rl) : List ByteArray := l.flatMap fun q => namesS q.2
def bytesOf (x : ByteArray) : List UInt8 := x.data.toList
theorem bytes_lt {x y : ByteArray} (h : nlt x y = true) : bytesOf x < bytesOf y := by
  have := nlt_iff.1 h
  rw [Lib.toList_data, Lib.toList_data] at this
  exact this
def setN (acc : List ByteArray) : DataW Unit := Maps.setOf (.agg []) (acc.map fun x => Lit.string (bytesOf x))
theorem setN_snoc (acc : List ByteArray) (x : ByteArray) : setN (acc ++ [x]) = (setN acc).put (.string (bytesOf x)) (.agg []) := by
  unfold setN
  rw [List.map_append, List.map_cons, List.map_nil, Maps.setOf_snoc]
theorem key_str (x : List UInt8) : WideAt.IsKeyLit (.string x) := by first | exact trivial | simp [WideAt.IsKeyLit] | constructor
theorem has_setN (acc : List ByteArray) (x : List UInt8) : Maps.has (setN acc) (.string x) = true ↔ ∃ y ∈ acc, bytesOf y = x := by
  unfold setN
  rw [Maps.has_setOf _ _ _ (fun k hk => by obtain ⟨y, _, rfl⟩ := List.mem_map.1 hk; exact key_str _), List.any_eq_true]
  constructor
  · rintro ⟨k, hk, hs⟩
    obtain ⟨y, hy, rfl⟩ := List.mem_map.1 hk
    exact ⟨y, hy, by simpa [Lit.sameKey] using hs⟩
  · rintro ⟨y, hy, rfl⟩
    exact ⟨_, List.mem_map.2 ⟨y, hy, rfl⟩, by simp [Lit.sameKey]⟩
theorem sorted_names {P : Program} {k : TypeId} {R : Value → Option (DataW Unit × List MemPlace)} {w : World} {b n : Nat} {acc : List ByteArray} (hown : w.ownsMap P k R b n (setN acc)) (hk : P.underlying k = some .string) {ss : List (List UInt8)} (hp : ss.Perm (strKeys (setN acc))) :
    ss.mergeSort (fun x y => decide (x ≤ y)) = (foldN acc).map bytesOf := by
  have hr := foldN_rises acc
  have hlt : ((foldN acc).map bytesOf).Pairwise (fun x y => x < y) := List.pairwise_map.2 (hr.imp fun h => bytes_lt h)
  have hC : Collected (setN acc) (fun _ => false) ((foldN acc).map bytesOf) := ⟨hlt.imp fun {a b} h e => by rw [e] at h; exact List.lt_irrefl _ h, fun x => by
    rw [has_setN, List.mem_map]
    constructor
    · rintro ⟨y, hy, e⟩
      exact ⟨⟨y, (foldN_mem acc).1 hy, e⟩, rfl⟩
    · rintro ⟨⟨y, hy, e⟩, _⟩
      exact ⟨y, (foldN_mem acc).2 hy, e⟩⟩
  have hP := hC.perm hown (Maps.string_keyed hk) hk fun _ => rfl
  have h1 := mergeSort_of_perm (hp.trans hP.symm)
  refine h1.trans ?_
  refine List.mergeSort_of_pairwise (hlt.imp fun h => ?_)
  simp only [leB, decide_eq_true_eq]
  exact List.le_of_lt h
end Go.Proofs.Ytdggnakjfcmnmaa.Mani
/-
  Contracts of the document's Add and Names: a name put into names; the names that a manifest's releases need. Condition: lists of a length that may be walked.
-/
namespace Go.Proofs.Ytdggnakjfcmnmaa.Mani
open Go Go.RowKit Go.Lib Go.Proofs.Ytdggnakjfcmnmaa.Span Go.Proofs.Ytdggnakjfcmnmaa.Need
set_option linter.unusedVariables false
set_option maxHeartbeats 4000000 in
set_option maxRecDepth 100000 in
theorem add_any (l : List ByteArray) (x : ByteArray) (A : Option Addr) (n c : Nat) (w : World) (h : TxOn w A n l) (hn : n ≤ 1000000) :
    Calls Try.prog 21 #[.slice A n c, .string x] w (MakesT w (addF x false l)) := by
  unfold MakesT
  obtain ⟨i0, hi0, hz0, hz1, hz2⟩ := info_parts info_str
  have Hlen := hide h.len
  obtain ⟨M, hM⟩ : ∃ M, M = addF x false l := ⟨_, rfl⟩
  rw [← hM]
  have HM := hide hM
  clear hM
  go_enter Try.func21, Try.ntmps21
  go_wp2
  go_loopw [5, 6, 7] (fun u b v wr => ∃ (i m : Nat) (q : Bool) (out : List ByteArray), i ≤ n ∧ v = .int .i64 (i : Int) ∧ b = .bool q ∧ wr.ownsRow w.heap.size 9 1 u m (tcs out) ∧ m ≤ i + 1 ∧ Hid (q = false → m ≤ i) ∧ Hid (out ++ addF x q (l.drop i) = M) ∧ Below w.heap.size w wr) (fun _ _ v _ => n - (RowKit.intOf v).toNat)
  case atStart => exact ⟨0, 0, false, [], by omega, rfl, rfl, World.ownsRow_nil _ _ _ _, by omega, hide (fun _ => by omega), hide (by rw [HM.out]; rfl), Below.refl _ _⟩
  case round =>
    obtain ⟨i, m, q, out, hi, rfl, rfl, hown, hmi, hmq, hout, hb⟩ := hrel
    have hbs := hb.size
    obtain ⟨Ax, cx, rfl, hcx, hrd⟩ := own_texts hown
    by_cases hlt : i < n
    · obtain ⟨ad, y, rfl, had, hy, hc⟩ := tcs_at h hlt
      have hc0 := (hb.cell (p := ad.add i) (by rw [block_of_add]; exact had)).trans hc
      have hd := drop_cons_at hy
      have hout2 := hout.out
      rw [hd] at hout2
      clear hrd hd hy hout h
      cases q with
      | true =>
        rw [addF, if_pos rfl] at hout2
        have Ho := hide (show (out ++ [y]) ++ addF x true (l.drop (i + 1)) = M by rw [← hout2]; simp)
        clear hout2
        go_wp2_with (at_builtin
                     refine wpList_append_any _ rfl (.tmp 34) (.tmp 39) _ rfl w.heap.size 9 i0 _ 1 16 Try.underlying28 hi0 hz0 hz1 hz2 rfl (by omega) _ m (tcs out) rfl (own_below hown (alloc_b (.cells #[.string y] 9))) _ _ 1 _ _ rfl (Reads.new1 wr 9 (.string y)) (one_str _) (by unfold maxLen; omega) (by omega) (by simp; omega) ?_
                     intro v2 w3 hown3 hg3 _
                     have hb3 : Below w.heap.size w w3 := (hb.alloc hbs _).grown hg3 (by simp; omega) (fun k hk => (hown.lt k hk).1))
        go_roundw
        case rel => exact ⟨i + 1, m + 1, true, out ++ [y], by omega, by go_num, rfl, by rw [tcs_append]; exact hown3, by omega, hide (fun h => by cases h), Ho, hb3⟩
        case measure => simp [RowKit.intOf]; omega
      | false =>
        have hmi2 := hmq.out rfl
        rcases tri x y with ⟨f1, f2, f3⟩ | ⟨f1, f2, f3⟩ | ⟨f1, f2, f3⟩
        · rw [addF_lt (show nlt x y = true from f1)] at hout2
          have Ho := hide (show ((out ++ [x]) ++ [y]) ++ addF x true (l.drop (i + 1)) = M by rw [← hout2]; simp)
          clear hout2 f2
          go_wp2_with (first
            | (at_builtin
               refine wpList_append_any _ rfl (.tmp 34) (.tmp 39) _ rfl w.heap.size 9 i0 _ 1 16 Try.underlying28 hi0 hz0 hz1 hz2 rfl (by omega) _ (m + 1) (tcs (out ++ [x])) rfl (own_below hown3' (alloc_b (.cells #[.string y] 9))) _ _ 1 _ _ rfl (Reads.new1 w3 9 (.string y)) (one_str _) (by unfold maxLen; omega) (by omega) (by simp; omega) ?_
               intro v4 w4 hown4x hg4 _
               have hown4 : w4.ownsRow w.heap.size 9 1 v4 (m + 1 + 1) ((tcs out ++ tcs [x]) ++ tcs [y]) := by
                 have := hown4x
                 rw [tcs_append] at this
                 exact this
               have hb4 : Below w.heap.size w w4 := (hb3.alloc hbs3 _).grown hg4 (by simp; omega) (fun k hk => (hown3'.lt k hk).1))
            | (at_builtin
               refine wpList_append_any _ rfl (.tmp 24) (.tmp 26) _ rfl w.heap.size 9 i0 _ 1 16 Try.underlying28 hi0 hz0 hz1 hz2 rfl (by omega) _ m (tcs out) rfl (own_below hown (alloc_b (.cells #[.string x] 9))) _ _ 1 _ _ rfl (Reads.new1 wr 9 (.string x)) (one_str _) (by unfold maxLen; omega) (by omega) (by simp; omega) ?_
               intro v2 w3 hown3 hg3 _
               have hb3 : Below w.heap.size w w3 := (hb.alloc hbs _).grown hg3 (by simp; omega) (fun k hk => (hown.lt k hk).1)
               have hbs3 := hb3.size
               have hown3' : w3.ownsRow w.heap.size 9 1 v2 (m + 1) (tcs (out ++ [x])) := by rw [tcs_append]; exact hown3
               obtain ⟨A3, c3, rfl, _, _⟩ := own_texts hown3'
               have hc3 := (hb3.cell (p := ad.add i) (by rw [block_of_add]; exact had)).trans hc))
          go_roundw
          case rel => exact ⟨i + 1, m + 1 + 1, true, (out ++ [x]) ++ [y], by omega, by go_num, rfl, by rw [tcs_append, tcs_append]; exact hown4, by omega, hide (fun h => by cases h), Ho, hb4⟩
          case measure => simp [RowKit.intOf]; omega
        · have exy : x = y := of_decide_eq_true (by rw [← eq_names]; exact f3)
          rw [addF_eq exy] at hout2
          have Ho := hide (show (out ++ [x]) ++ addF x true (l.drop (i + 1)) = M by rw [← hout2]; simp)
          clear hout2 f2 exy
          go_wp2_with (at_builtin
                       refine wpList_append_any _ rfl (.tmp 24) (.tmp 26) _ rfl w.heap.size 9 i0 _ 1 16 Try.underlying28 hi0 hz0 hz1 hz2 rfl (by omega) _ m (tcs out) rfl (own_below hown (alloc_b (.cells #[.string x] 9))) _ _ 1 _ _ rfl (Reads.new1 wr 9 (.string x)) (one_str _) (by unfold maxLen; omega) (by omega) (by simp; omega) ?_
                       intro v2 w3 hown3 hg3 _
                       have hb3 : Below w.heap.size w w3 := (hb.alloc hbs _).grown hg3 (by simp; omega) (fun k hk => (hown.lt k hk).1)
                       have hbs3 := hb3.size
                       have hown3' : w3.ownsRow w.heap.size 9 1 v2 (m + 1) (tcs (out ++ [x])) := by rw [tcs_append]; exact hown3
                       obtain ⟨A3, c3, rfl, _, _⟩ := own_texts hown3'
                       have hc3 := (hb3.cell (p := ad.add i) (by rw [block_of_add]; exact had)).trans hc)
          go_roundw
          case rel => exact ⟨i + 1, m + 1, true, out ++ [x], by omega, by go_num, rfl, hown3', by omega, hide (fun h => by cases h), Ho, hb3⟩
          case measure => simp [RowKit.intOf]; omega
        · rw [addF_gt f2] at hout2
          have Ho := hide (show (out ++ [y]) ++ addF x false (l.drop (i + 1)) = M by rw [← hout2]; simp)
          clear hout2 f2
          go_wp2_with (at_builtin
                       refine wpList_append_any _ rfl (.tmp 34) (.tmp 39) _ rfl w.heap.size 9 i0 _ 1 16 Try.underlying28 hi0 hz0 hz1 hz2 rfl (by omega) _ m (tcs out) rfl (own_below hown (alloc_b (.cells #[.string y] 9))) _ _ 1 _ _ rfl (Reads.new1 wr 9 (.string y)) (one_str _) (by unfold maxLen; omega) (by omega) (by simp; omega) ?_
                       intro v2 w3 hown3 hg3 _
                       have hb3 : Below w.heap.size w w3 := (hb.alloc hbs _).grown hg3 (by simp; omega) (fun k hk => (hown.lt k hk).1))
          go_roundw
          case rel => exact ⟨i + 1, m + 1, false, out ++ [y], by omega, by go_num, rfl, by rw [tcs_append]; exact hown3, by omega, hide (fun _ => by omega), Ho, hb3⟩
          case measure => simp [RowKit.intOf]; omega
    · have hi2 : i = n := by omega
      have hout2 := hout.out
      rw [List.drop_of_length_le (by have := Hlen.out; omega)] at hout2
      clear hout h HM
      cases q with
      | true =>
        have e : out = M := by rw [← hout2]; simp [addF]
        subst e
        clear hout2
        go_wp2
        go_ret
        exact ⟨Ax, m, cx, rfl, hrd, hb⟩
      | false =>
        have e : out ++ [x] = M := by rw [← hout2]; rfl
        subst e
        clear hout2 hrd
        go_wp2_with (at_builtin
                     refine wpList_append_any _ rfl (.tmp 43) (.tmp 45) _ rfl w.heap.size 9 i0 _ 1 16 Try.underlying28 hi0 hz0 hz1 hz2 rfl (by omega) _ m (tcs out) rfl (own_below hown (alloc_b (.cells #[.string x] 9))) _ _ 1 _ _ rfl (Reads.new1 wr 9 (.string x)) (one_str _) (by unfold maxLen; omega) (by omega) (by simp; omega) ?_
                     intro v2 w3 hown3 hg3 _
                     have hb3 : Below w.heap.size w w3 := (hb.alloc hbs _).grown hg3 (by simp; omega) (fun k hk => (hown.lt k hk).1))
        obtain ⟨A9, c9, rfl, _, hrd9⟩ := own_texts (L := out ++ [x]) (by rw [tcs_append]; exact hown3)
        go_ret
        first | exact ⟨A9, m + 1, c9, rfl, hrd9, hb3⟩ | exact ⟨A9, m + 1, ⟨c9, rfl⟩, hrd9, hb3⟩
end Go.Proofs.Ytdggnakjfcmnmaa.Mani
