/-
  Some texts of this claim, one behind the other: ClashSpec, ClashSoundM, ClashAwake. What each proves, and its condition, stands at its head.
-/
import Derived.Test.YtckioihkknhfpaaGreatDoorX29
import Derived.Test.YtckioihkknhfpaaGreatDoorX30
/-
  What the program's functions of clashes have to tell, one sentence each, as premises; the statements' Large. Condition: none of its own.
-/
namespace Go.Proofs.YtckioihkknhfpaaGreatDoor.Clash
open Go.Proofs.YtckioihkknhfpaaGreatDoor.Pick (Pk PkOn getP okP)
open Go Go.RowKit Go.Lib Go.Proofs.YtckioihkknhfpaaGreatDoor.Span Go.Proofs.YtckioihkknhfpaaGreatDoor.Need Go.Proofs.YtckioihkknhfpaaGreatDoor.Grow Go.Proofs.YtckioihkknhfpaaGreatDoor.Term
open Go.Proofs.YtckioihkknhfpaaGreatDoor.Label (runes fitL)
open Go.Proofs.YtckioihkknhfpaaGreatDoor.Ver (Tabs)
set_option linter.unusedVariables false
def FineC (l : List Tm) : Prop := l.length ≤ 1000 ∧ sumC l ≤ 10000 ∧ ∀ t ∈ l, t.name.size ≤ 1000000000
theorem FineC.fine {l : List Tm} (h : FineC l) : FineT l := fun t ht => ⟨h.2.2 t ht, by have := sumC_mem ht; have := h.2.1; omega⟩
def SpecCheckC : Prop := ∀ (l : List Tm) (A : Option Addr) (n c : Nat) (w : World), TmOn w A n l → FineC l → Calls Tryz.prog 8 #[.slice A n c] w fun e w' => e = .returned (.bool (okC l)) ∧ Below w.heap.size w w'
def SpecSameC : Prop := ∀ (l m : List Tm) (A A' : Option Addr) (n c n' c' : Nat) (w : World), TmOn w A n l → TmOn w A' n' m → FineC l → FineC m → Calls Tryz.prog 10 #[.slice A n c, .slice A' n' c'] w fun e w' => e = .returned (.bool (decide (l = m))) ∧ Below w.heap.size w w'
def SpecShowC : Prop := ∀ (l : List Tm) (A : Option Addr) (n c : Nat) (w : World), TmOn w A n l → FineC l → okC l = true → (∀ t ∈ l, t.set.length ≤ 1000) → Tabs w → Calls Tryz.prog 12 #[.slice A n c] w fun e w' => e = .returned (.string (showC l)) ∧ Below w.heap.size w w'
def SpecMakeC : Prop := ∀ (l : List Tm) (A : Option Addr) (n c : Nat) (w : World), TmOn w A n l → FineC l → (∀ t ∈ l, okT t = true) → Calls Tryz.prog 15 #[.slice A n c] w (MakesC w (makeC l))
def SpecFindC : Prop := ∀ (l : List Tm) (nm : ByteArray) (A : Option Addr) (n c : Nat) (w : World), TmOn w A n l → FineC l → okC l = true → nm.size ≤ 1000000000 → Calls Tryz.prog 19 #[.slice A n c, .string nm] w (FindsT w (foundC l nm) (findC l nm).isSome)
def SpecJoinC : Prop := ∀ (a b : List Tm) (nm : ByteArray) (A A' : Option Addr) (n c n' c' : Nat) (w : World), TmOn w A n a → TmOn w A' n' b → FineC a → FineC b → okC a = true → okC b = true → sumC a + sumC b ≤ 5000 → n + n' ≤ 900 → nm.size ≤ 1000000000 →
  Calls Tryz.prog 21 #[.slice A n c, .slice A' n' c', .string nm] w (MakesC w (joinC a b nm))
def SpecHoldsC : Prop := ∀ (l : List Tm) (k : List Pk) (A Ak : Option Addr) (n c nk ck : Nat) (w : World), TmOn w A n l → PkOn w Ak nk k → FineC l → okC l = true → okP k = true → nk ≤ 1000000 → Calls Tryz.prog 24 #[.slice A n c, .slice Ak nk ck] w fun e w' => e = .returned (.bool (holdsC (getP k) l)) ∧ Below w.heap.size w w'
def largeC (l : List Tm) : Bool := decide (40 < l.length) || l.any largeT
theorem smallC {l : List Tm} (h : largeC l = false) : l.length ≤ 40 ∧ (∀ t ∈ l, t.set.length ≤ 60 ∧ t.name.size ≤ 200) ∧ sumC l ≤ 2400 ∧ FineC l := by
  unfold largeC at h
  rw [Bool.or_eq_false_iff, decide_eq_false_iff_not, List.any_eq_false] at h
  obtain ⟨h1, h2⟩ := h
  have h3 : ∀ t ∈ l, t.set.length ≤ 60 ∧ t.name.size ≤ 200 := fun t ht => small_of (by simpa using h2 t ht)
  have h4 : sumC l ≤ 60 * l.length := sumC_le fun t ht => (h3 t ht).1
  have h5 : sumC l ≤ 2400 := by omega
  exact ⟨by omega, h3, h5, by omega, by omega, fun t ht => by have := (h3 t ht).2; omega⟩
theorem any_drop {l : List Tm} {t : Tm} {i : Nat} (h : l[i]? = some t) : (l.drop i).any largeT = (largeT t || (l.drop (i + 1)).any largeT) := by
  obtain ⟨hi, e⟩ := List.getElem?_eq_some_iff.1 h
  rw [List.drop_eq_getElem_cons hi, e]
  rfl
set_option maxHeartbeats 4000000 in
set_option maxRecDepth 100000 in
theorem largeC_any (l : List Tm) (A : Option Addr) (n c : Nat) (w : World) (h : TmOn w A n l) (hn : n ≤ 9223372036854775807) (hl : ∀ t ∈ l, t.name.size ≤ 9223372036854775807 ∧ t.set.length ≤ 9223372036854775807) :
    Calls Tryz.prog 6 #[.slice A n c] w fun e w' => e = .returned (.bool (largeC l)) ∧ Below w.heap.size w w' := by
  have hlen := hide h.len
  by_cases h40 : 40 < n
  · have e : largeC l = true := by unfold largeC; rw [decide_eq_true (by have := hlen.out; omega)]; rfl
    have h40z : (40 : Int) < (n : Int) := by omega
    rw [e]
    go_enter Tryz.func6, Tryz.ntmps6
    go_wp2
    go_ret
    exact ⟨rfl, Below.refl _ _⟩
  · have e : largeC l = l.any largeT := by unfold largeC; rw [decide_eq_false (by have := hlen.out; omega)]; rfl
    have h40z : ¬ (40 : Int) < (n : Int) := by omega
    rw [e]
    have Hd := hide (fun i t => @any_drop l t i)
    have Hend : Hid ((l.drop n).any largeT = false) := hide (by rw [List.drop_of_length_le (by have := hlen.out; omega)]; rfl)
    obtain ⟨F, hF⟩ : ∃ F, F = l.any largeT := ⟨_, rfl⟩
    rw [← hF]
    have HF : Hid (F = (l.drop 0).any largeT) := hide hF
    clear hF e
    go_enter Tryz.func6, Tryz.ntmps6
    go_wp2
    go_loopw [3] (fun v wr => ∃ i : Nat, i ≤ n ∧ v = .int .i64 (i : Int) ∧ Hid (F = (l.drop i).any largeT) ∧ Below w.heap.size w wr) (fun v _ => n - (RowKit.intOf v).toNat)
    case atStart => exact ⟨0, by omega, rfl, HF, Below.refl _ _⟩
    case round =>
      obtain ⟨i, hi, rfl, hf, hb⟩ := hrel
      have hbs := hb.size
      by_cases hlt : i < n
      · obtain ⟨ad, t, A1, n1, c1, rfl, hbl, hx, hs, p1, p2, p3⟩ := TmIn.at_ (TmIn.below h hb) hlt
        obtain ⟨g1, g2⟩ := hl t (List.mem_of_getElem? hx)
        have hsl := hs.1
        have hd := hf.out.trans (Hd.out i t hx)
        have HL := hide (largeT_any t.name t.set t.none A1 n1 c1 wr (hs.more hbs) (by omega) g1)
        unfold Tells at HL
        rw [show largeT ⟨t.name, t.set, t.none⟩ = largeT t from rfl] at HL
        clear hx hs g1 g2 hsl hf Hd Hend HF h hl
        generalize largeT t = y at *
        cases y with
        | true =>
          have e : Hid (F = true) := hide (by rw [hd]; rfl)
          clear hd
          go_wp2_with (first
            | (go_at_call 26
               refine HL.out.mono ?_
               rintro e w1 ⟨rfl, hb1⟩))
          go_ret
          exact ⟨by rw [e.out]; rfl, hb.trans (hb1.mono hbs)⟩
        | false =>
          have e : Hid (F = (l.drop (i + 1)).any largeT) := hide (by rw [hd]; rfl)
          clear hd
          go_wp2_with (first
            | (go_at_call 26
               refine HL.out.mono ?_
               rintro e w1 ⟨rfl, hb1⟩))
          go_roundw
          case rel => exact ⟨i + 1, by omega, by go_num, e, hb.trans (hb1.mono hbs)⟩
          case measure => simp [RowKit.intOf]; omega
      · have hi2 : i = n := by omega
        have e : Hid (F = false) := hide (by rw [hf.out, hi2]; exact Hend.out)
        clear hf HF Hd Hend h
        go_wp2
        go_ret
        exact ⟨by rw [e.out]; rfl, hb⟩
end Go.Proofs.YtckioihkknhfpaaGreatDoor.Clash
/-
  Plain mathematics for ClashSound: what terms come to is not more than they are together; picks that may be are a state. No program.
-/
namespace Go.Proofs.YtckioihkknhfpaaGreatDoor.Clash
open Go.RowKit Go.Lib Go.Proofs.YtckioihkknhfpaaGreatDoor.Span Go.Proofs.YtckioihkknhfpaaGreatDoor.Need Go.Proofs.YtckioihkknhfpaaGreatDoor.Pick Go.Proofs.YtckioihkknhfpaaGreatDoor.Term
open Go.Proofs.YtckioihkknhfpaaGreatDoor.Label (runes fitL)
set_option linter.unusedVariables false
theorem lt_ne {a b : ByteArray} (h : nlt a b = true) : b ≠ a := fun e => by rw [e, nlt_self] at h; cases h
theorem sum_put {t : Tm} (ht : okT t = true) : ∀ (c : List Tm), RisesC c → (∀ x ∈ c, okT x = true) → sumC (putC t false c) ≤ sumC c + t.set.length
  | [], _, _ => by
    rw [putC_end]
    simp [sumC]
  | x :: r, hr, ho => by
    obtain ⟨h1, h2⟩ := List.pairwise_cons.1 hr
    have ih := sum_put ht r h2 (fun y hy => ho y (by simp [hy]))
    rw [putC, sumC_cons]
    split
    · rename_i e
      rw [put_true t r (fun y hy => by rw [← e]; exact lt_ne (h1 y hy)), sumC_cons]
      have := meetT_len (okT_set (ho x (by simp))) (okT_set ht)
      omega
    · split
      · rename_i e
        rw [put_true t r (fun y hy => lt_ne (nlt_trans e.2 (h1 y hy))), sumC_cons, sumC_cons]
        omega
      · rw [sumC_cons]; omega
theorem puts_sum {l : List Tm} (h : ∀ t ∈ l, okT t = true) : ∀ i, i ≤ l.length → sumC (putsC (l.take i)) ≤ sumC (l.take i) := by
  intro i
  induction i with
  | zero => intro _; simp [putsC, sumC]
  | succ i ih =>
    intro hi
    have hx : l[i]? = some (l[i]'(by omega)) := by simp
    have hp := puts_ok (l := l.take i) fun t ht => h t (List.mem_of_mem_take ht)
    rw [puts_snoc l hx, sumC_snoc l hx]
    have := sum_put (h _ (List.mem_of_getElem? hx)) _ hp.1 hp.2
    have := ih (by omega)
    omega
theorem sum_filter (p : Tm → Bool) (l : List Tm) : sumC (l.filter p) ≤ sumC l := by
  induction l with
  | nil => simp [sumC]
  | cons x r ih =>
    rw [List.filter_cons, sumC_cons]
    split
    · rw [sumC_cons]; omega
    · omega
theorem fine_make {l m : List Tm} (hl : ∀ t ∈ l, okT t = true) (h : makeC l = some m) (hn : l.length ≤ 1000) (hs : sumC l ≤ 10000) : FineC m := by
  have hok := make_ok hl h
  have h1 := puts_length l l.length (Nat.le_refl _)
  have h2 := puts_sum hl l.length (Nat.le_refl _)
  rw [List.take_length] at h1 h2
  unfold makeC at h
  split at h
  · cases h
  · injection h with h
    subst h
    have h3 := List.length_filter_le (fun t => !fullT t) (putsC l)
    have h4 := sum_filter (fun t => !fullT t) (putsC l)
    exact ⟨by omega, by omega, fun t ht => by have := Label.fit_small t.name (okT_fit (hok.2 t ht).1); omega⟩
theorem join_make {a b : List Tm} {n : ByteArray} {x y : Tm} (hx : findC a n = some x) (hy : findC b n = some y) : joinC a b n = makeC (joinT x y :: dropC a n ++ dropC b n) := by
  unfold joinC; rw [hx, hy]
theorem drop_len (a : List Tm) (n : ByteArray) : (dropC a n).length ≤ a.length := List.length_filter_le _ _
theorem fine_join {a b j : List Tm} {n : ByteArray} (ha : ∀ t ∈ a, okT t = true) (hb : ∀ t ∈ b, okT t = true) (h : joinC a b n = some j) (hn : a.length + b.length ≤ 900) (hs : sumC a + sumC b ≤ 5000) : FineC j := by
  cases hx : findC a n with
  | none => unfold joinC at h; rw [hx] at h; cases h
  | some x =>
    cases hy : findC b n with
    | none => unfold joinC at h; rw [hx, hy] at h; cases h
    | some y =>
      rw [join_make hx hy] at h
      have hxa := find_name hx
      have hyb := find_name hy
      have lx := sumC_mem hxa.1
      have ly := sumC_mem hyb.1
      have hjl := joinT_len (okT_set (ha x hxa.1)) (okT_set (hb y hyb.1))
      have sa : sumC (dropC a n) ≤ sumC a := sum_filter _ _
      have sb : sumC (dropC b n) ≤ sumC b := sum_filter _ _
      have la := drop_len a n
      have lb := drop_len b n
      refine fine_make (fun t ht => ?_) h (by simp only [List.length_append, List.length_cons]; omega) ?_
      · rcases List.mem_append.1 ht with ht | ht
        · rcases List.mem_cons.1 ht with rfl | ht
          · exact ok_join (ha x hxa.1) (hxa.2.trans hyb.2.symm)
          · exact ha t (List.mem_filter.1 ht).1
        · exact hb t (List.mem_filter.1 ht).1
      · rw [sumC_append, sumC_cons]; omega
theorem state_ok {l : List Pk} (h : okP l = true) : OkSt (getP l) := fun n v hv => by
  have := ((okP_iff.1 h).2 _ (getP_in hv)).2
  unfold verOk at this
  exact of_decide_eq_true this
end Go.Proofs.YtckioihkknhfpaaGreatDoor.Clash
/-
  The chapter's examples of clashes (awake): they hold, if the program's Join and Show tell what they have to. Condition: those premises; the tables hold what the texts lay in them.
-/
namespace Go.Proofs.YtckioihkknhfpaaGreatDoor.Clash
open Go Go.RowKit Go.Lib Go.Proofs.YtckioihkknhfpaaGreatDoor.Span Go.Proofs.YtckioihkknhfpaaGreatDoor.Need Go.Proofs.YtckioihkknhfpaaGreatDoor.Grow Go.Proofs.YtckioihkknhfpaaGreatDoor.Term
open Go.Proofs.YtckioihkknhfpaaGreatDoor.Label (runes fitL)
open Go.Proofs.YtckioihkknhfpaaGreatDoor.Pick (empty_lt fit_some)
open Go.Proofs.YtckioihkknhfpaaGreatDoor.Rule (showL joinL partL tz tz_in)
open Go.Proofs.YtckioihkknhfpaaGreatDoor.Ver (Tabs)
set_option linter.unusedVariables false
def bA : ByteArray := ⟨#[97]⟩
def bB : ByteArray := ⟨#[98]⟩
theorem fit_b (b : UInt8) (h : b = 97 ∨ b = 98) : fitL (runes (str [b]) 0) = true := by
  rw [Ver.runes_ascii [b] (by rcases h with rfl | rfl <;> decide) 0]
  rcases h with rfl | rfl <;> decide
theorem a_lt : nlt bA bB = true := by
  rw [nlt_iff, show bA = str [97] from rfl, show bB = str [98] from rfl, str_toList, str_toList]
  decide
theorem ab_ne : bA ≠ bB := fun e => by
  rw [show bA = str [97] from rfl, show bB = str [98] from rfl, str_inj] at e
  cases e
def tA : Tm := ⟨bA, [(1000000, 1000001)], false⟩
def tN : Tm := ⟨bB, [], true⟩
def tB : Tm := ⟨bB, [(2000000, 2000001)], false⟩
def tJ : Tm := ⟨bB, [(2000000, 2000001)], true⟩
def tW : Tm := ⟨bB, allS, false⟩
theorem union_nil {a : List S} (ha : isSet (-1) a = true) : unionS [] a = a := (is_nf ha fun p _ _ => by
  show has a p = (has [] p || has a p)
  rw [has_nil]; rfl).symm
theorem ok_A : okT tA = true ∧ fullT tA = false ∧ emptyT tA = false := ⟨by unfold okT; rw [show tA.name = str [97] from rfl, fit_b 97 (.inl rfl)]; decide, by decide, by decide⟩
theorem ok_N : okT tN = true ∧ fullT tN = false ∧ emptyT tN = false := ⟨by unfold okT; rw [show tN.name = str [98] from rfl, fit_b 98 (.inr rfl)]; decide, by decide, by decide⟩
theorem ok_B : okT tB = true ∧ fullT tB = false ∧ emptyT tB = false := ⟨by unfold okT; rw [show tB.name = str [98] from rfl, fit_b 98 (.inr rfl)]; decide, by decide, by decide⟩
theorem ok_J : okT tJ = true ∧ fullT tJ = false ∧ emptyT tJ = false := ⟨by unfold okT; rw [show tJ.name = str [98] from rfl, fit_b 98 (.inr rfl)]; decide, by decide, by decide⟩
theorem ok_W : okT tW = true ∧ fullT tW = false ∧ emptyT tW = false := ⟨by unfold okT; rw [show tW.name = str [98] from rfl, fit_b 98 (.inr rfl)]; decide, by decide, by decide⟩
theorem ok_one {t : Tm} (h : okT t = true ∧ fullT t = false ∧ emptyT t = false) : okC [t] = true := okC_iff.2 ⟨List.pairwise_singleton _ _, fun q hq => by rw [List.mem_singleton.1 hq]; exact h⟩
theorem ok_AN : okC [tA, tN] = true := okC_iff.2 ⟨List.pairwise_pair.2 a_lt, fun q hq => by
  rcases List.mem_cons.1 hq with rfl | hq
  · exact ok_A
  · rw [List.mem_singleton.1 hq]; exact ok_N⟩
theorem ok_AJ : okC [tA, tJ] = true := okC_iff.2 ⟨List.pairwise_pair.2 a_lt, fun q hq => by
  rcases List.mem_cons.1 hq with rfl | hq
  · exact ok_A
  · rw [List.mem_singleton.1 hq]; exact ok_J⟩
theorem join_NB : joinT tN tB = tJ := by
  rw [join_same (a := tN) (b := tB) rfl, show tN.set = [] from rfl, union_nil (by decide)]
  rfl
theorem join_NW : joinT tN tW = ⟨bB, allS, true⟩ := by
  rw [join_same (a := tN) (b := tW) rfl, show tN.set = [] from rfl, union_nil (by decide)]
  rfl
theorem find_hit {t : Tm} {r : List Tm} {n : ByteArray} (h : t.name = n) : findC (t :: r) n = some t := by
  unfold findC
  rw [List.find?_cons]
  simp [h]
theorem find_miss {t : Tm} {r : List Tm} {n : ByteArray} (h : t.name ≠ n) : findC (t :: r) n = findC r n := by
  unfold findC
  rw [List.find?_cons]
  simp [h]
theorem join_ex1 : joinC [tA, tN] [tB] bB = some [tA, tJ] := by
  unfold joinC
  rw [find_miss (t := tA) ab_ne, find_hit (t := tN) (n := bB) rfl, find_hit (t := tB) (n := bB) rfl]
  show makeC (joinT tN tB :: (dropC [tA, tN] bB ++ dropC [tB] bB)) = _
  have d1 : dropC [tA, tN] bB = [tA] := by
    unfold dropC
    rw [List.filter_cons, if_pos (by simpa using (show ¬ tA.name = bB from ab_ne)), List.filter_cons, if_neg (by simp [tN])]
    rfl
  have d2 : dropC [tB] bB = [] := by
    unfold dropC
    rw [List.filter_cons, if_neg (by simp [tB])]
    rfl
  rw [d1, d2, join_NB]
  have hp : putsC [tJ, tA] = [tA, tJ] := by
    show putC tA false (putC tJ false []) = _
    show putC tA false [tJ] = _
    rw [putC, if_neg (show ¬ tJ.name = tA.name from fun e => ab_ne (Eq.symm e)), if_pos (show false = false ∧ nlt tA.name tJ.name = true from ⟨rfl, a_lt⟩)]
    rfl
  show makeC [tJ, tA] = _
  unfold makeC
  rw [hp, if_neg (by decide)]
  rfl
theorem join_ex2 : joinC [tN] [tW] bB = some [] := by
  unfold joinC
  rw [find_hit (t := tN) (n := bB) rfl, find_hit (t := tW) (n := bB) rfl]
  show makeC (joinT tN tW :: (dropC [tN] bB ++ dropC [tW] bB)) = _
  have d1 : dropC [tN] bB = [] := by
    unfold dropC
    rw [List.filter_cons, if_neg (by simp [tN])]
    rfl
  have d2 : dropC [tW] bB = [] := by
    unfold dropC
    rw [List.filter_cons, if_neg (by simp [tW])]
    rfl
  rw [d1, d2, join_NW]
  rfl
theorem z200 : tz 2000000 = [50, 46, 48, 46, 48] := (tz_in (by omega) (by omega)).trans (txt_small (a := 2) (b := 0) (c := 0) rfl rfl rfl (by omega) (by omega) (by omega))
theorem show2 : showL [(2000000, 2000001)] = [61, 50, 46, 48, 46, 48] := by
  unfold showL
  rw [if_neg (by decide), if_neg (by decide), if_neg (by decide)]
  simp only [joinL, partL]
  rw [if_pos (by decide), z200]
theorem show_A : showT tA = ⟨#[97, 32, 61, 49, 46, 48, 46, 48]⟩ := by
  unfold showT statesT
  rw [if_pos ok_A.1, if_neg (by rw [ok_A.2.1]; simp), if_neg (by rw [ok_A.2.2]; simp), if_neg (by decide), if_neg (by decide)]
  show bA ++ wBlank ++ str (showL [(1000000, 1000001)]) = _
  rw [show showL [(1000000, 1000001)] = [61, 49, 46, 48, 46, 48] from showS]
  rfl
theorem show_J : showT tJ = ⟨#[98, 32, 61, 50, 46, 48, 46, 48, 32, 111, 114, 32, 97, 98, 115, 101, 110, 116]⟩ := by
  unfold showT statesT
  rw [if_pos ok_J.1, if_neg (by rw [ok_J.2.1]; simp), if_neg (by rw [ok_J.2.2]; simp), if_neg (by decide), if_pos (show tJ.none = true from rfl)]
  show bB ++ wBlank ++ (str (showL [(2000000, 2000001)]) ++ wOr ++ wAbsent) = _
  rw [show2]
  rfl
theorem show_ex : showC [tA, tJ] = ⟨#[97, 32, 61, 49, 46, 48, 46, 48, 32, 38, 32, 98, 32, 61, 50, 46, 48, 46, 48, 32, 111, 114, 32, 97, 98, 115, 101, 110, 116]⟩ := by
  show showT tA ++ wAnd ++ showT tJ = _
  rw [show_A, show_J]
  rfl
theorem fine_small {l : List Tm} (h : l.length ≤ 2) (h1 : ∀ t ∈ l, t.set.length ≤ 1 ∧ t.name.size ≤ 1) : FineC l :=
  ⟨by omega, by have := sumC_le (k := 1) fun t ht => (h1 t ht).1; omega, fun t ht => by have := (h1 t ht).2; omega⟩
theorem tmOn_blk {w : World} {g : Nat} {rs : List Rt} {l : List Tm} (h : Blk w g 30 (tms rs).toArray) (hf : FitsT w w.heap.size rs l) : TmOn w (some ⟨g, 0, none⟩) l.length l := by
  refine ⟨rs, ⟨by rw [tms_length, hf.1], fun hn => ⟨⟨g, 0, none⟩, rfl, h.lt, fun j u hu => ?_⟩⟩, hf⟩
  have hadd : (⟨g, 0, none⟩ : Addr).add j = ⟨g, j, none⟩ := by unfold Addr.add; split <;> simp_all
  rw [hadd]
  exact (h.cell j).trans (by simpa using hu)
theorem fits_one {w : World} {nm : ByteArray} {A : Option Addr} {n c : Nat} {s : List S} {z : Bool} (h : SpOn w A n s) : FitsT w w.heap.size [(nm, .slice A n c, z)] [⟨nm, s, z⟩] :=
  ⟨rfl, fun i r q hr hq => by
    rcases i with _ | i
    · simp at hr hq
      subst hr hq
      exact ⟨rfl, rfl, A, n, c, rfl, h⟩
    · simp at hr⟩
theorem fits_two {w : World} {nm nm' : ByteArray} {A A' : Option Addr} {n c n' c' : Nat} {s s' : List S} {z z' : Bool} (h : SpOn w A n s) (h' : SpOn w A' n' s') :
    FitsT w w.heap.size [(nm, .slice A n c, z), (nm', .slice A' n' c', z')] [⟨nm, s, z⟩, ⟨nm', s', z'⟩] :=
  ⟨rfl, fun i r q hr hq => by
    rcases i with _ | _ | i
    · simp at hr hq
      subst hr hq
      exact ⟨rfl, rfl, A, n, c, rfl, h⟩
    · simp at hr hq
      subst hr hq
      exact ⟨rfl, rfl, A', n', c', rfl, h'⟩
    · simp at hr⟩
theorem two_terms (w : World) (g0 : Nat) (h : SpOn w (some ⟨g0, 0, none⟩) 1 allS) :
    TmOn ((w.alloc (.cells #[.string ⟨#[98]⟩, .slice none 0 0, .bool true] 30)).alloc (.cells #[.string ⟨#[98]⟩, .slice (some ⟨g0, 0, none⟩) 1 1, .bool false] 30)) (some ⟨w.heap.size, 0, none⟩) 1 [tN] ∧
    TmOn ((w.alloc (.cells #[.string ⟨#[98]⟩, .slice none 0 0, .bool true] 30)).alloc (.cells #[.string ⟨#[98]⟩, .slice (some ⟨g0, 0, none⟩) 1 1, .bool false] 30)) (some ⟨w.heap.size + 1, 0, none⟩) 1 [tW] := by
  have b1 := (Blk.new w 30 #[.string ⟨#[98]⟩, .slice none 0 0, .bool true]).alloc (.cells #[.string ⟨#[98]⟩, .slice (some ⟨g0, 0, none⟩) 1 1, .bool false] 30)
  have b2 := Blk.new (w.alloc (.cells #[.string ⟨#[98]⟩, .slice none 0 0, .bool true] 30)) 30 #[.string ⟨#[98]⟩, .slice (some ⟨g0, 0, none⟩) 1 1, .bool false]
  rw [World.size_alloc] at b2
  exact ⟨tmOn_blk (rs := [(⟨#[98]⟩, .slice none 0 0, true)]) b1 (fits_one (SpIn.nil _ _ _)), tmOn_blk (rs := [(⟨#[98]⟩, .slice (some ⟨g0, 0, none⟩) 1 1, false)]) b2 (fits_one ((h.on (alloc_b _)).on (alloc_b _)))⟩
set_option maxHeartbeats 4000000 in
set_option maxRecDepth 100000 in
theorem awakeC_any (SJ : SpecJoinC) (SS : SpecShowC) (w : World) (hT : Tabs w) : Calls Tryz.prog 7 #[] w fun e w' => e = .returned (.bool true) ∧ Below w.heap.size w w' := by
  have s1 : ∀ t ∈ [tA, tN], t.set.length ≤ 1 ∧ t.name.size ≤ 1 := by decide
  have s2 : ∀ t ∈ [tB], t.set.length ≤ 1 ∧ t.name.size ≤ 1 := by decide
  have s3 : ∀ t ∈ [tN], t.set.length ≤ 1 ∧ t.name.size ≤ 1 := by decide
  have s4 : ∀ t ∈ [tW], t.set.length ≤ 1 ∧ t.name.size ≤ 1 := by decide
  have s5 : ∀ t ∈ [tA, tJ], t.set.length ≤ 1 ∧ t.name.size ≤ 1 := by decide
  have J1 : Hid (∀ wx A A' n n', TmOn wx A n [tA, tN] → TmOn wx A' n' [tB] → Calls Tryz.prog 21 #[.slice A n 2, .slice A' n' 1, .string ⟨#[98]⟩] wx fun e w' => ∃ A n c, e = .returned (.tuple #[.slice A n c, .bool true]) ∧ TmOn w' A n [tA, tJ] ∧ Below wx.heap.size wx w') := hide (fun wx A A' n n' h h' => by
    have := SJ [tA, tN] [tB] bB A A' n 2 n' 1 wx h h' (fine_small (by decide) s1) (fine_small (by decide) s2) ok_AN (ok_one ok_B) (by decide) (by have := h.len; have := h'.len; simp at *; omega) (by decide)
    unfold MakesC at this
    rw [join_ex1] at this
    exact this)
  have J2 : Hid (∀ wx A A' n n', TmOn wx A n [tN] → TmOn wx A' n' [tW] → Calls Tryz.prog 21 #[.slice A n 1, .slice A' n' 1, .string ⟨#[98]⟩] wx fun e w' => ∃ A n c, e = .returned (.tuple #[.slice A n c, .bool true]) ∧ TmOn w' A n [] ∧ Below wx.heap.size wx w') := hide (fun wx A A' n n' h h' => by
    have := SJ [tN] [tW] bB A A' n 1 n' 1 wx h h' (fine_small (by decide) s3) (fine_small (by decide) s4) (ok_one ok_N) (ok_one ok_W) (by decide) (by have := h.len; have := h'.len; simp at *; omega) (by decide)
    unfold MakesC at this
    rw [join_ex2] at this
    exact this)
  have S1 : Hid (∀ wx A n c, TmOn wx A n [tA, tJ] → Below w.heap.size w wx → Calls Tryz.prog 12 #[.slice A n c] wx fun e w' => e = .returned (.string ⟨#[97, 32, 61, 49, 46, 48, 46, 48, 32, 38, 32, 98, 32, 61, 50, 46, 48, 46, 48, 32, 111, 114, 32, 97, 98, 115, 101, 110, 116]⟩) ∧ Below wx.heap.size wx w') := hide (fun wx A n c h hb => by
    have := SS [tA, tJ] A n c wx h (fine_small (by decide) s5) ok_AJ (fun t ht => by have := (s5 t ht).1; omega) (hT.below hb)
    rw [show_ex] at this
    exact this)
  have S2 : Hid (∀ wx A n c, TmOn wx A n [] → Below w.heap.size w wx → Calls Tryz.prog 12 #[.slice A n c] wx fun e w' => e = .returned (.string ⟨#[97, 108, 119, 97, 121, 115]⟩) ∧ Below wx.heap.size wx w') := hide (fun wx A n c h hb => SS [] A n c wx h ⟨by decide, by decide, fun t ht => by cases ht⟩ (okC_iff.2 ⟨List.Pairwise.nil, fun t ht => by cases ht⟩) (fun t ht => by cases ht) (hT.below hb))
  clear hT SJ SS s1 s2 s3 s4 s5
  obtain ⟨V1, hV1⟩ : ∃ V, V = (w.alloc (.cells #[.int .i64 0, .int .i64 1000000000] 45)).alloc (.cells #[.int .i64 1000000, .int .i64 1000001] 45) := ⟨_, rfl⟩
  have z1 : V1.heap.size = w.heap.size + 2 := by rw [hV1]; simp
  have hbV : Below w.heap.size w V1 := by rw [hV1]; exact ((Below.refl _ _).alloc (Nat.le_refl _) _).alloc (by simp) _
  have p0 : SpOn V1 (some ⟨w.heap.size, 0, none⟩) 1 allS := by rw [hV1]; exact (spOn_one w 0 1000000000 _ rfl).on (alloc_b _)
  have p1 : SpOn V1 (some ⟨w.heap.size + 1, 0, none⟩) 1 [(1000000, 1000001)] := by rw [hV1]; exact spOn_one _ 1000000 1000001 _ (by simp)
  obtain ⟨V2, hV2⟩ : ∃ V, V = (V1.alloc (.cells #[.string ⟨#[97]⟩, .slice (some ⟨w.heap.size + 1, 0, none⟩) 1 1, .bool false, .string ⟨#[98]⟩, .slice none 0 0, .bool true] 30)).alloc (.cells #[.int .i64 2000000, .int .i64 2000001] 45) := ⟨_, rfl⟩
  have z2 : V2.heap.size = w.heap.size + 4 := by rw [hV2]; simp [z1]
  have hbV2 : Below V1.heap.size V1 V2 := by rw [hV2]; exact ((Below.refl _ _).alloc (Nat.le_refl _) _).alloc (by simp) _
  have b2 : Blk V2 (w.heap.size + 2) 30 #[.string ⟨#[97]⟩, .slice (some ⟨w.heap.size + 1, 0, none⟩) 1 1, .bool false, .string ⟨#[98]⟩, .slice none 0 0, .bool true] := by rw [hV2, ← z1]; exact (Blk.new _ _ _).alloc _
  have p2 : SpOn V2 (some ⟨w.heap.size + 3, 0, none⟩) 1 [(2000000, 2000001)] := by rw [hV2]; exact spOn_one _ 2000000 2000001 _ (by simp [z1])
  have q0 := p0.on hbV2
  have q1 := tmOn_blk (rs := [(⟨#[97]⟩, .slice (some ⟨w.heap.size + 1, 0, none⟩) 1 1, false), (⟨#[98]⟩, .slice none 0 0, true)]) (l := [tA, tN]) b2 (fits_two (p1.on hbV2) (SpIn.nil _ _ _))
  obtain ⟨V3, hV3⟩ : ∃ V, V = V2.alloc (.cells #[.string ⟨#[98]⟩, .slice (some ⟨w.heap.size + 3, 0, none⟩) 1 1, .bool false] 30) := ⟨_, rfl⟩
  have hbV3 : Below V2.heap.size V2 V3 := by rw [hV3]; exact alloc_b _
  have r0 := q0.on hbV3
  have r1 := q1.on hbV3
  have b3 : Blk V3 (w.heap.size + 4) 30 #[.string ⟨#[98]⟩, .slice (some ⟨w.heap.size + 3, 0, none⟩) 1 1, .bool false] := by rw [hV3, ← z2]; exact Blk.new _ _ _
  have r2 := tmOn_blk (rs := [(⟨#[98]⟩, .slice (some ⟨w.heap.size + 3, 0, none⟩) 1 1, false)]) (l := [tB]) b3 (fits_one (p2.on hbV3))
  have hb3 : Below w.heap.size w V3 := (hbV.trans (hbV2.mono hbV.size)).trans (hbV3.mono (by omega))
  rw [hV2, hV1] at hV3
  clear hV2 hV1 z1 z2 hbV hbV2 hbV3 p0 p1 p2 q0 q1 b2 b3
  go_enter Tryz.func7, Tryz.ntmps7
  go_upto_region 4 with fail
  try rw [← hV3]
  clear hV3
  go_wp2_with (first
    | (go_at_call 12
       refine (S2.out _ _ _ _ h2' hb7).mono ?_
       rintro e w5 ⟨rfl, hb8x⟩
       have hb8 := hb7.trans (hb8x.mono hb7.size))
    | (go_at_call 12
       refine (S1.out _ _ _ _ h1' hb6).mono ?_
       rintro e w4 ⟨rfl, hb7x⟩
       have hb7 := hb6.trans (hb7x.mono hb6.size)
       have h2' := h2.on hb7x)
    | (go_at_call 21
       have hy := two_terms w3 w.heap.size r3
       refine (J2.out _ _ _ _ _ hy.1 hy.2).mono ?_
       rintro e w6 ⟨A2, n2, c2, rfl, h2, hb6x⟩
       have hbz := ((Below.refl w3.heap.size w3).alloc (Nat.le_refl _) (.cells #[.string ⟨#[98]⟩, .slice none 0 0, .bool true] 30)).alloc (by simp) (.cells #[.string ⟨#[98]⟩, .slice (some ⟨w.heap.size, 0, none⟩) 1 1, .bool false] 30)
       have hb6w := hbz.trans (hb6x.mono hbz.size)
       have hb6 := hb4.trans (hb6w.mono hb4.size)
       have h1' := h1.on hb6w)
    | (go_at_call 21
       refine (J1.out _ _ _ _ _ r1 r2).mono ?_
       rintro e w3 ⟨A1, n1, c1, rfl, h1, hb4x⟩
       have hb4 := hb3.trans (hb4x.mono hb3.size)
       have r3 := r0.on hb4x))
  go_ret
  exact ⟨rfl, hb8⟩
end Go.Proofs.YtckioihkknhfpaaGreatDoor.Clash
