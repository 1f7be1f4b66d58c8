/-
  Some texts of this claim, one behind the other: ClashTold, ClashShow. What each proves, and its condition, stands at its head.
-/
import Derived.Test.YtckioihkknhfpaaGreatDoorZ32
import Derived.Test.YtckioihkknhfpaaGreatDoorZ44
import Derived.Laws.Cover1
import Derived.Test.YtckioihkknhfpaaGreatDoorZ27
import Derived.Test.YtckioihkknhfpaaGreatDoorZ28
/-
  Contracts of the program's Check, Same (over the library's EqualFunc) and Holds of clashes. Condition: terms of a number, of names and of sets that may be walked.
-/
namespace Go.Proofs.YtckioihkknhfpaaGreatDoor.Clash
open Go.Proofs.YtckioihkknhfpaaGreatDoor.Pick (triP empty_lt fit_some Pk PkOn getP okP)
open Go Go.RowKit Go.Lib Go.Proofs.YtckioihkknhfpaaGreatDoor.Span Go.Proofs.YtckioihkknhfpaaGreatDoor.Need Go.Proofs.YtckioihkknhfpaaGreatDoor.Grow Go.Proofs.YtckioihkknhfpaaGreatDoor.Term
open Go.Proofs.YtckioihkknhfpaaGreatDoor.Label (runes fitL)
set_option linter.unusedVariables false
set_option maxHeartbeats 8000000 in
set_option maxRecDepth 100000 in
theorem specCheckC : SpecCheckC := by
  intro l A n c w h hl
  have hlen := h.len
  have hn : n ≤ 1000 := by rw [← hlen]; exact hl.1
  have hfi := hl.fine
  have Hd := hide (fun a i q => @okCQ_drop l a i q)
  obtain ⟨F, hF⟩ : ∃ F, F = okCQ ByteArray.empty l := ⟨_, rfl⟩
  have Hl : Hid (okC l = F) := hide hF.symm
  have HF := hide hF
  have Hlen := hide hlen
  clear hF hlen hl
  generalize okC l = L at *
  go_enter Tryz.func8, Tryz.ntmps8
  go_wp2
  go_loopw [3, 8] (fun u v wr => ∃ (i : Nat) (a : ByteArray), i ≤ n ∧ u = .string a ∧ v = .int .i64 (i : Int) ∧ Hid (F = okCQ a (l.drop i)) ∧ Below w.heap.size w wr) (fun _ v _ => n - (RowKit.intOf v).toNat)
  case atStart => exact ⟨0, ByteArray.empty, by omega, rfl, rfl, HF, Below.refl _ _⟩
  case round =>
    obtain ⟨i, a, hi, rfl, rfl, hf, hb⟩ := hrel
    have hbs := hb.size
    by_cases hlt : i < n
    · obtain ⟨ad, t, A', n', c', rfl, hbl, hx, hs, c1, c2, c3⟩ := TmIn.at_ (TmIn.below h hb) hlt
      obtain ⟨hq1, hq2⟩ := hfi t (List.mem_of_getElem? hx)
      have hsl := hs.1
      have hd := hf.out.trans (Hd.out a i t hx)
      obtain ⟨V, hV⟩ : ∃ V, V = wr.alloc (.cells #[.string t.name, .slice A' n' c', .bool t.none] 30) := ⟨_, rfl⟩
      have hbV : Below wr.heap.size wr V := by rw [hV]; exact alloc_b _
      have bt : Blk V wr.heap.size 30 #[.string t.name, .slice A' n' c', .bool t.none] := by rw [hV]; exact Blk.new _ _ _
      have hsV : SpOn V A' n' t.set := (((hs.more hbs).below hbV).more hbV.size)
      have hbw : Below w.heap.size w V := hb.trans (hbV.mono hbs)
      have hVs := hbw.size
      have HX : Hid (∀ wx, Below V.heap.size V wx → wx.cell? ⟨wr.heap.size, 0, none⟩ = some (.string t.name) ∧ wx.cell? ⟨wr.heap.size, 1, none⟩ = some (.slice A' n' c') ∧ wx.cell? ⟨wr.heap.size, 2, none⟩ = some (.bool t.none)) := hide (fun wx hbx => ⟨((bt.below hbx bt.lt).cell 0).trans rfl, ((bt.below hbx bt.lt).cell 1).trans rfl, ((bt.below hbx bt.lt).cell 2).trans rfl⟩)
      have HC : Hid (∀ wx, Below V.heap.size V wx → Calls Tryz.prog 27 #[.agg #[.string t.name, .slice A' n' c', .bool t.none]] wx fun e w' => e = .returned (.bool (okT t)) ∧ Below wx.heap.size wx w') := hide (fun wx hbx => by
        have := checkT_any t.name t.set t.none A' n' c' wx (hsV.on hbx) (by omega) (by omega)
        unfold Tells at this
        exact this)
      have HU : Hid (∀ wx, Below V.heap.size V wx → Calls Tryz.prog 28 #[.agg #[.string t.name, .slice A' n' c', .bool t.none]] wx fun e w' => e = .returned (.bool (fullT t)) ∧ Below wx.heap.size wx w') := hide (fun wx hbx => by
        have := fullT_any t.name t.set t.none A' n' c' wx (hsV.on hbx) (by omega)
        unfold Tells at this
        exact this)
      have HE : Hid (∀ wx, Below V.heap.size V wx → Calls Tryz.prog 29 #[.agg #[.string t.name, .slice A' n' c', .bool t.none]] wx fun e w' => e = .returned (.bool (emptyT t)) ∧ Below wx.heap.size wx w') := hide (fun wx hbx => by
        have := emptyT_any t.name t.set t.none A' n' c' wx (hsV.on hbx) 
        unfold Tells at this
        exact this)
      unfold inC at hd
      have Hd2 := hide hd
      have htri := triP t.name a
      obtain ⟨k0, k1, k2⟩ := HX.out _ (Below.refl _ _)
      clear hq1 hq2 hsl hd hs hsV hx hf Hd HF h hfi bt hbV
      generalize okT t = y at *
      generalize fullT t = f at *
      generalize emptyT t = m at *
      obtain ⟨nm, s, z⟩ := t
      simp only [] at c1 c2 c3 k0 k1 k2 HC HU HE HX Hd2 htri hV
      go_upto_region 5 with fail
      try rw [← hV]
      clear hV c1 c2 c3
      rcases htri with ⟨f1, f2, f3⟩ | ⟨f1, f2, f3⟩ | ⟨f1, f2, f3⟩
      · have e : Hid (F = false) := hide (by rw [Hd2.out, f2]; simp)
        clear Hd2 f2
        go_wp2
        go_ret
        exact ⟨by rw [Hl.out, e.out]; rfl, hbw⟩
      · have e : Hid (F = false) := hide (by rw [Hd2.out, f2]; simp)
        clear Hd2 f2
        go_wp2
        go_ret
        exact ⟨by rw [Hl.out, e.out]; rfl, hbw⟩
      · cases y with
        | false =>
          have e : Hid (F = false) := hide (by rw [Hd2.out]; simp)
          clear Hd2 f2
          go_wp2_with (first
            | (go_at_call 27
               refine (HC.out _ (Below.refl _ _)).mono ?_
               rintro e w1 ⟨rfl, hb1⟩
               obtain ⟨k10, k11, k12⟩ := HX.out _ hb1))
          go_ret
          exact ⟨by rw [Hl.out, e.out]; rfl, hbw.trans (hb1.mono hVs)⟩
        | true =>
        cases f with
        | true =>
          have e : Hid (F = false) := hide (by rw [Hd2.out]; simp)
          clear Hd2 f2
          go_wp2_with (first
            | (go_at_call 28
               refine (HU.out _ hb1).mono ?_
               rintro e w2 ⟨rfl, hb2x⟩
               have hb2 := hb1.trans (hb2x.mono hb1.size)
               obtain ⟨k20, k21, k22⟩ := HX.out _ hb2)
            | (go_at_call 27
               refine (HC.out _ (Below.refl _ _)).mono ?_
               rintro e w1 ⟨rfl, hb1⟩
               obtain ⟨k10, k11, k12⟩ := HX.out _ hb1))
          go_ret
          exact ⟨by rw [Hl.out, e.out]; rfl, hbw.trans (hb2.mono hVs)⟩
        | false =>
        cases m with
        | true =>
          have e : Hid (F = false) := hide (by rw [Hd2.out]; simp)
          clear Hd2 f2
          go_wp2_with (first
            | (go_at_call 29
               refine (HE.out _ hb2).mono ?_
               rintro e w3 ⟨rfl, hb3x⟩
               have hb3 := hb2.trans (hb3x.mono hb2.size)
               obtain ⟨k30, k31, k32⟩ := HX.out _ hb3)
            | (go_at_call 28
               refine (HU.out _ hb1).mono ?_
               rintro e w2 ⟨rfl, hb2x⟩
               have hb2 := hb1.trans (hb2x.mono hb1.size)
               obtain ⟨k20, k21, k22⟩ := HX.out _ hb2)
            | (go_at_call 27
               refine (HC.out _ (Below.refl _ _)).mono ?_
               rintro e w1 ⟨rfl, hb1⟩
               obtain ⟨k10, k11, k12⟩ := HX.out _ hb1))
          go_ret
          exact ⟨by rw [Hl.out, e.out]; rfl, hbw.trans (hb3.mono hVs)⟩
        | false =>
          have e : Hid (F = okCQ nm (l.drop (i + 1))) := hide (by rw [Hd2.out, f2]; rfl)
          clear Hd2 f2
          go_wp2_with (first
            | (go_at_call 29
               refine (HE.out _ hb2).mono ?_
               rintro e w3 ⟨rfl, hb3x⟩
               have hb3 := hb2.trans (hb3x.mono hb2.size)
               obtain ⟨k30, k31, k32⟩ := HX.out _ hb3)
            | (go_at_call 28
               refine (HU.out _ hb1).mono ?_
               rintro e w2 ⟨rfl, hb2x⟩
               have hb2 := hb1.trans (hb2x.mono hb1.size)
               obtain ⟨k20, k21, k22⟩ := HX.out _ hb2)
            | (go_at_call 27
               refine (HC.out _ (Below.refl _ _)).mono ?_
               rintro e w1 ⟨rfl, hb1⟩
               obtain ⟨k10, k11, k12⟩ := HX.out _ hb1))
          have hbz := hbw.trans (hb3.mono hVs)
          go_roundw
          case rel => exact ⟨i + 1, nm, by omega, rfl, by go_num, e, hbz⟩
          case measure => simp [RowKit.intOf]; omega
    · have e : Hid (F = true) := hide (by rw [hf.out, List.drop_of_length_le (by have := Hlen.out; omega)]; rfl)
      clear hf
      go_wp2
      go_ret
      exact ⟨by rw [Hl.out, e.out]; rfl, hb⟩
set_option maxHeartbeats 8000000 in
set_option maxRecDepth 100000 in
theorem equalC_any (l m : List Tm) (A A' : Option Addr) (n c n' c' : Nat) (w : World) (h : TmOn w A n l) (h' : TmOn w A' n' m) (hl : ShortT l) (hm : ShortT m) (hn : n ≤ 140737488355328) :
    Calls Tryz.prog 32 #[.slice A n c, .slice A' n' c', .func (.func 33) #[] #[]] w fun e w' => e = .returned (.bool (decide (l = m))) ∧ Below w.heap.size w w' := by
  have h1 := h.len
  have h2 := h'.len
  obtain ⟨r, hr⟩ : ∃ r, r = decide (l = m) := ⟨_, rfl⟩
  rw [← hr]
  have Hr := hide hr
  clear hr
  by_cases hnn : n = n'
  · subst hnn
    have H1 := hide h1
    have H2 := hide h2
    clear h1 h2
    go_enter Tryz.func32, Tryz.ntmps32
    go_wp2
    go_loopw [17] (fun v wr => ∃ (i : Nat), i ≤ n ∧ v = .int .i64 (i : Int) ∧ Hid (l.take i = m.take i) ∧ Below w.heap.size w wr) (fun v _ => n - (RowKit.intOf v).toNat)
    case atStart => exact ⟨0, by omega, rfl, hide rfl, Below.refl _ _⟩
    case round =>
      obtain ⟨i, hi, rfl, hf, hb⟩ := hrel
      have hbs := hb.size
      by_cases hlt : i < n
      · obtain ⟨ad, t, A1, n1, c1, rfl, hbl, hx, hs, p1, p2, p3⟩ := TmIn.at_ (TmIn.below h hb) hlt
        obtain ⟨ad', u, A2, n2, c2, rfl, hbl', hx', hs', r1, r2, r3⟩ := TmIn.at_ (TmIn.below h' hb) hlt
        have hsn := hide (@alikeC_snoc l m i t u hf.out hx hx')
        have hne := hide (@alikeC_ne l m i t u hx hx')
        have hq1 := hl t (List.mem_of_getElem? hx)
        have hq2 := hm u (List.mem_of_getElem? hx')
        have g1 := hs.1
        have g2 := hs'.1
        have HC : Hid (∀ wx, Below wr.heap.size wr wx → Calls Tryz.prog 33 #[.agg #[.string t.name, .slice A1 n1 c1, .bool t.none], .agg #[.string u.name, .slice A2 n2 c2, .bool u.none]] wx fun e w' => e = .returned (.bool (decide (t = u))) ∧ Below wx.heap.size wx w') := hide (fun wx hbx => by
          have := sameT_any t.name u.name t.set u.set t.none u.none A1 A2 n1 c1 n2 c2 wx ((hs.below (hbx.mono hbs)).more (Nat.le_trans hbs hbx.size)) ((hs'.below (hbx.mono hbs)).more (Nat.le_trans hbs hbx.size)) (by omega) (by omega)
          rw [same_is] at this
          unfold Tells at this
          exact this)
        have Hy := hide (show decide (t = u) = true → t = u from of_decide_eq_true)
        have Hn := hide (show decide (t = u) = false → ¬ t = u from of_decide_eq_false)
        have k1' : ∀ o, (wr.alloc o).cell? (ad'.add (i * 3)) = some (.string u.name) := fun o => (World.cell?_alloc_lt _ _ _ (by rw [block_of_add]; omega)).trans r1
        have k2' : ∀ o, (wr.alloc o).cell? ⟨(ad'.add (i * 3)).block, (ad'.add (i * 3)).off + 1, none⟩ = some (.slice A2 n2 c2) := fun o => (World.cell?_alloc_lt _ _ _ (by simp only [block_of_add]; omega)).trans r2
        have k3' : ∀ o, (wr.alloc o).cell? ⟨(ad'.add (i * 3)).block, (ad'.add (i * 3)).off + 2, none⟩ = some (.bool u.none) := fun o => (World.cell?_alloc_lt _ _ _ (by simp only [block_of_add]; omega)).trans r3
        clear hx hx' hf hs hs' hq1 hq2 h h' hl hm g1 g2
        generalize decide (t = u) = b at *
        have hcc : ∀ o o', Below wr.heap.size wr ((wr.alloc o).alloc o') := fun o o' => ((Below.refl _ _).alloc (Nat.le_refl _) _).alloc (by simp) _
        cases b <;>
        · go_wp2_with (go_at_call 33
                       refine (HC.out _ (hcc _ _)).mono ?_
                       rintro e w1 ⟨rfl, hb1⟩
                       have hbw : Below w.heap.size w w1 := hb.trans (((hcc _ _).trans (hb1.mono (by simp; omega))).mono hbs))
          first
            | (go_ret
               have e := hne.out (Hn.out (by first | rfl | trivial))
               have e2 : r = false := by rw [Hr.out]; exact e
               exact ⟨by rw [e2]; rfl, hbw⟩)
            | (go_roundw
               case rel => exact ⟨i + 1, by omega, by go_num, hide (hsn.out (Hy.out (by first | rfl | trivial))), hbw⟩
               case measure => simp [RowKit.intOf]; omega)
      · have hi2 : i = n := by omega
        subst hi2
        have hq := hf.out
        rw [List.take_of_length_le (by rw [H1.out]; exact Nat.le_refl _), List.take_of_length_le (by rw [H2.out]; exact Nat.le_refl _)] at hq
        have e2 : r = true := by rw [Hr.out]; exact decide_eq_true hq
        have E2 := hide e2
        clear hf hq e2
        go_wp2
        go_ret
        exact ⟨by rw [E2.out]; rfl, hb⟩
  · have e2 : r = false := by rw [Hr.out]; exact decide_eq_false fun e => hnn (by rw [← h1, ← h2, e])
    have E2 := hide e2
    clear e2 h1 h2
    go_enter Tryz.func32, Tryz.ntmps32
    go_wp2
    go_ret
    exact ⟨by rw [E2.out]; rfl, Below.refl _ _⟩
theorem specSameC : SpecSameC := by
  intro l m A A' n c n' c' w h h' hl hm
  have HE := hide (equalC_any l m A A' n c n' c' w h h' hl.fine.short hm.fine.short (by have := hl.1; have := h.len; omega))
  clear h h' hl hm
  generalize decide (l = m) = y at *
  go_enter Tryz.func10, Tryz.ntmps10
  go_wp2_with (go_at_call 32
               refine HE.out.mono ?_
               rintro e w1 ⟨rfl, hb1⟩)
  go_ret
  exact ⟨rfl, hb1⟩
end Go.Proofs.YtckioihkknhfpaaGreatDoor.Clash
/-
  The contract of the program's Show of clashes. Condition: clashes that may be, of sets of at most 1,000 spans; the tables hold what the texts lay in them.
-/
namespace Go.Proofs.YtckioihkknhfpaaGreatDoor.Clash
open Go.Shelf
open Go.Proofs.YtckioihkknhfpaaGreatDoor.Rule (laysJ extraJ info_str)
open Go.Proofs.YtckioihkknhfpaaGreatDoor.Ver (Tabs)
open Go Go.RowKit Go.Lib Go.Proofs.YtckioihkknhfpaaGreatDoor.Span Go.Proofs.YtckioihkknhfpaaGreatDoor.Need Go.Proofs.YtckioihkknhfpaaGreatDoor.Grow Go.Proofs.YtckioihkknhfpaaGreatDoor.Term
open Go.Proofs.YtckioihkknhfpaaGreatDoor.Label (runes fitL)
set_option linter.unusedVariables false
theorem bytes_str (x : ByteArray) : str x.data.toList = x := by simp [str]
theorem str_cat (a : List UInt8) (x : ByteArray) : str (a ++ x.data.toList) = str a ++ x := by rw [← bytes_str x, str_append]; simp [str]
theorem more_eq (s : List UInt8) (l : List Tm) : str (s ++ Lib.joinTail [32, 38, 32] ((l.map showT).map (·.data.toList))) = moreC (str s) l := by
  induction l generalizing s with
  | nil => simp [Lib.joinTail, moreC]
  | cons t r ih =>
    have e : moreC (str s) (t :: r) = moreC (str s ++ wAnd ++ showT t) r := rfl
    have e2 : str s ++ wAnd ++ showT t = str (s ++ [32, 38, 32] ++ (showT t).data.toList) := by
      rw [str_cat, show wAnd = str [32, 38, 32] from rfl, str_append]
    rw [e, e2, ← ih]
    simp [Lib.joinTail]
theorem join_showC {l : List Tm} (h : l ≠ []) : str (Lib.join ((l.map showT).map (·.data.toList)) [32, 38, 32]) = showC l := by
  cases l with
  | nil => exact absurd rfl h
  | cons t r =>
    rw [List.map_cons, List.map_cons, Lib.join_cons, more_eq, bytes_str]
    rfl
theorem joinC_len (l : List Tm) (h : ∀ t ∈ l, (showT t).size ≤ 300000) : (Lib.join ((l.map showT).map (·.data.toList)) [32, 38, 32]).length ≤ 300003 * l.length := by
  cases l with
  | nil => simp [Lib.join]
  | cons t r =>
    rw [List.map_cons, List.map_cons, Lib.join_cons]
    have key : ∀ m : List Tm, (∀ t ∈ m, (showT t).size ≤ 300000) → (Lib.joinTail [32, 38, 32] ((m.map showT).map (·.data.toList))).length ≤ 300003 * m.length := by
      intro m
      induction m with
      | nil => intro _; simp [Lib.joinTail]
      | cons x q ih =>
        intro hm
        have h1 := ih fun y hy => hm y (by simp [hy])
        have h2 : (showT x).data.toList.length ≤ 300000 := by rw [Array.length_toList]; exact hm x (by simp)
        unfold Lib.joinTail at *
        simp only [List.map_cons, List.flatten_cons, List.length_append, List.length_cons, List.length_nil] at *
        omega
    have h1 := key r fun y hy => h y (by simp [hy])
    have h2 : (showT t).data.toList.length ≤ 300000 := by rw [Array.length_toList]; exact h t (by simp)
    simp only [List.length_append, List.length_cons]
    omega
theorem joinC_any (g c : Nat) (l : List Tm) (w : World) (hcells : ∀ (j : Nat) q, l[j]? = some q → w.cell? ⟨g, j, none⟩ = some (.string (showT q))) (hg : g < w.heap.size) (hc : l.length ≤ c) (hl : l.length ≤ 1000) (h0 : l ≠ []) (hs : ∀ t ∈ l, (showT t).size ≤ 300000) :
    Calls Tryz.prog 35 #[.slice (some ⟨g, 0, none⟩) l.length c, .string ⟨#[32, 38, 32]⟩] w fun e w' => e = .returned (.string (showC l)) ∧ Below w.heap.size w w' := by
  have hj := joinC_len l hs
  have h := Any.strings_Join laysJ extraJ g 0 c (l.map showT) ⟨#[32, 38, 32]⟩ w (fun j x hx => by
      rw [List.getElem?_map, Option.map_eq_some_iff] at hx
      obtain ⟨s, hs, rfl⟩ := hx
      rw [Nat.zero_add]
      exact hcells j s hs) hg (by simp; omega) (by simpa using hc) (by show (Lib.join ((l.map showT).map (·.data.toList)) [32, 38, 32]).length ≤ _; omega)
  rw [List.length_map] at h
  refine h.mono ?_
  rintro e w' ⟨rfl, hb⟩
  refine ⟨?_, hb⟩
  have := join_showC h0
  unfold str at this
  rw [← this]
set_option maxHeartbeats 8000000 in
set_option maxRecDepth 100000 in
theorem specShowC : SpecShowC := by
  intro l A n c w h hl hok hset hT
  obtain ⟨i0, hi0, hz0, hz1, hz2⟩ := info_parts info_str
  have hll := h.len
  have hn : n ≤ 1000 := by rw [← hll]; exact hl.1
  have HC := hide (specCheckC l A n c w h hl)
  rw [hok] at HC
  have Hsz := hide (fun t (ht : t ∈ l) => show t.name.size ≤ 1000000000 ∧ t.set.length ≤ 1000 ∧ (showT t).size ≤ 300000 from ⟨hl.2.2 t ht, hset t ht, showT_size (hset t ht)⟩)
  clear hl hok hset
  by_cases hn00 : n = 0
  · subst hn00
    have e : l = [] := List.eq_nil_of_length_eq_zero hll
    subst e
    clear Hsz hll h
    go_enter Tryz.func12, Tryz.ntmps12
    go_wp2_with (go_at_call 8
                 refine HC.out.mono ?_
                 rintro e w3 ⟨rfl, hb3⟩)
    go_ret
    exact ⟨rfl, hb3⟩
  · have h0 : l ≠ [] := fun e => by rw [e] at hll; exact hn00 hll.symm
    have hn1 : 0 < n := by omega
    clear hn00
    have hn0 : ((n : Int) == 0) = false := by rw [beq_eq_false_iff_ne]; omega
    have hmk := run_make_rowN (P := Tryz.prog) 47 9 i0 _ Tryz.underlying47 hi0 hz0 .i64 .i64 n n (Nat.le_refl _) (by rw [hz2]; omega) (by omega)
    rw [hz1] at hmk
    obtain ⟨M, HM⟩ : ∃ M, Hid (M = madeCells (Value.string ByteArray.empty).cells (n * 1)) := ⟨_, hide rfl⟩
    rw [← HM.out] at hmk
    have HMs : Hid (M.size = n) := hide (by rw [HM.out]; simp [size_madeCells])
    have HT := hide hT
    have Hll := hide hll
    have H0 := hide h0
    clear hT hll h0
    go_enter Tryz.func12, Tryz.ntmps12
    go_wp2_with (go_at_call 8
                 refine HC.out.mono ?_
                 rintro e w3 ⟨rfl, hb13⟩
                 have hx3 := h.on hb13)
    have hx4 : TmIn w3 w3.heap.size A n l := hx3
    have hb14 : Below w3.heap.size w3 (w3.alloc (.cells M 9)) := alloc_b _
    have hbs3 := hb13.size
    have hM0 := Blk.new w3 9 M
    clear hx3 HC hmk h
    go_loopw [19] (fun x wr => ∃ (i : Nat) (cs : Array Value), i ≤ n ∧ x = .int .i64 (i : Int) ∧ Blk wr w3.heap.size 9 cs ∧ Hid (cs.size = n) ∧ Hid (∀ (k : Nat) q, k < i → l[k]? = some q → cs[k]? = some (.string (showT q))) ∧ Below w3.heap.size w3 wr) (fun x _ => n - (RowKit.intOf x).toNat)
    case atStart => exact ⟨0, M, by omega, rfl, hM0, HMs, hide (fun k s hk => absurd hk (by omega)), hb14⟩
    case round =>
      obtain ⟨i, cs, hi, rfl, hB, hcs, hall, hbq⟩ := hrel
      have hb := hb13.trans (hbq.mono hbs3)
      have hx := hx4.below hbq
      clear hM0 hx4 hb14 HMs
      by_cases hlt : i < n
      · obtain ⟨ad, q, A', n', c', rfl, hbl, hq, hs, p1, p2, p3⟩ := hx.at_ hlt
        have hcsi : i < cs.size := by rw [hcs.out]; exact hlt
        obtain ⟨hz1', hz2', _⟩ := Hsz.out q (List.mem_of_getElem? hq)
        have hbs := hb.size
        have hglt := hB.lt
        have Hall := hide (fun (k : Nat) t (hk : k < i + 1) (ht : l[k]? = some t) => show (cs.setIfInBounds i (.string (showT q)))[k]? = some (.string (showT t)) by
          by_cases hki : k = i
          · subst hki
            rw [hq] at ht
            injection ht with ht
            subst ht
            simp [hcsi]
          · rw [Array.getElem?_setIfInBounds_ne (fun e => hki e.symm)]
            exact hall.out k t (by omega) ht)
        obtain ⟨v0, hv0⟩ : ∃ v, cs[i]? = some v := ⟨_, Array.getElem?_eq_getElem hcsi⟩
        have hsl := hs.1
        obtain ⟨wq, hwq⟩ : ∃ wq, wq = wr.alloc (.cells #[.string q.name, .slice A' n' c', .bool q.none] 30) := ⟨_, rfl⟩
        have hBq : Blk wq wr.heap.size 30 #[.string q.name, .slice A' n' c', .bool q.none] := by rw [hwq]; exact Blk.new _ _ _
        have hB2 : Blk wq w3.heap.size 9 cs := by rw [hwq]; exact hB.alloc _
        have hbwq : Below wr.heap.size wr wq := by rw [hwq]; exact alloc_b _
        have Hsh := hide (showT_any q.name q.set q.none A' n' c' wq (((hs.more hbq.size).below hbwq).more hbwq.size) (by omega) hz1' (HT.out.below (hb.trans (hbwq.mono hbs))))
        unfold Tells at Hsh
        rw [show showT ⟨q.name, q.set, q.none⟩ = showT q from rfl] at Hsh
        clear hall hq hs hx hsl hz1' hz2'
        obtain ⟨nm, s, z⟩ := q
        simp only [] at p1 p2 p3 hwq hBq Hsh Hall
        generalize showT ⟨nm, s, z⟩ = sh at *
        have k0 := (hBq.cell 0).trans (show (#[Value.string nm, .slice A' n' c', .bool z] : Array Value)[0]? = some (.string nm) from rfl)
        have k1 := (hBq.cell 1).trans (show (#[Value.string nm, .slice A' n' c', .bool z] : Array Value)[1]? = some (.slice A' n' c') from rfl)
        have k2 := (hBq.cell 2).trans (show (#[Value.string nm, .slice A' n' c', .bool z] : Array Value)[2]? = some (.bool z) from rfl)
        have hi1 : (0 : Int) ≤ (i : Int) := by omega
        have hi2 : (i : Int) < (n : Int) := by omega
        have hqs := hbwq.size
        go_upto_region 9 with fail
        try rw [← hwq]
        clear hwq
        go_wp2_with (go_at_call 34
                     refine Hsh.out.mono ?_
                     rintro e w5 ⟨rfl, hb5⟩
                     have hB5 := hB2.below hb5 hB2.lt
                     have k5 := (hB5.cell i).trans hv0
                     have f5 := hB5.frozen i)
        have hb01 := (hbq.trans (hbwq.mono hbq.size)).trans (hb5.mono (Nat.le_trans hbq.size hbwq.size))
        go_roundw
        case rel => exact ⟨i + 1, cs.setIfInBounds i (.string sh), by omega, by go_num, hB5.set_ i _, hide (by simpa using hcs.out), Hall, hb01.setCell (by simp) _⟩
        case measure => simp [RowKit.intOf]; omega
      · have hin : i = n := by omega
        subst hin
        have hj := hide (joinC_any w3.heap.size i l wr (fun j s hs => by
          rw [hB.cell]
          exact hall.out j s (by rw [← Hll.out]; exact (List.getElem?_eq_some_iff.1 hs).1) hs) hB.lt (by have := Hll.out; omega) (by have := Hll.out; omega) H0.out (fun t ht => (Hsz.out t ht).2.2))
        rw [Hll.out] at hj
        clear hall hcs
        go_wp2_with (go_at_call 35
                     refine hj.out.mono ?_
                     rintro e w5 ⟨rfl, hb5⟩)
        go_ret
        exact ⟨rfl, hb.trans (hb5.mono hb.size)⟩
end Go.Proofs.YtckioihkknhfpaaGreatDoor.Clash
