/-
  Some texts of this claim, one behind the other: ReachGrowsM, ReachAskedW. What each proves, and its condition, stands at its head.
-/
import Derived.Test.YtdkcjjbnoeediaaZ44
import Derived.Test.YtdkcjjbnoeediaaZ42
import Derived.Test.YtdkcjjbnoeediaaZ47
import Derived.Test.YtdkcjjbnoeediaaZ19
/-
  What ReachGrows wants: entries that stand first; that a put leaves texts alone; what is told of what more is known.
-/
namespace Go.Proofs.Ytdkcjjbnoeediaa.Reach
open Go Go.RowKit Go.Lib Go.Sort Go.Proofs.Ytdkcjjbnoeediaa.Span Go.Proofs.Ytdkcjjbnoeediaa.Need Go.Proofs.Ytdkcjjbnoeediaa.Mani Go.Proofs.Ytdkcjjbnoeediaa.Wire Go.Proofs.Ytdkcjjbnoeediaa.Depot Go.Proofs.Ytdkcjjbnoeediaa.Index
set_option linter.unusedVariables false
theorem rcs_take2 : ∀ (l : List Rw) (k : Nat), (rcs l).take (k * 2) = rcs (l.take k)
  | l, 0 => by simp [rcs]
  | [], k + 1 => by simp [rcs]
  | r :: t, k + 1 => by
    rw [show (k + 1) * 2 = k * 2 + 1 + 1 by omega]
    simp only [rcs, List.take_succ_cons, rcs_take2 t k]
theorem reads_take2 {w : World} {B n k : Nat} {A : Option Addr} {xs : List Value} (h : Reads w B 2 A n xs) (hk : k ≤ n) : Reads w B 2 A k (xs.take (k * 2)) := by
  refine ⟨by rw [List.length_take, h.1]; omega, fun hn => ?_⟩
  obtain ⟨ad, rfl, hb, hcell⟩ := h.2 (by omega)
  refine ⟨ad, rfl, hb, fun j u hu => hcell j u ?_⟩
  rw [List.getElem?_take] at hu
  split at hu
  · exact hu
  · cases hu
/-- The first of some entries. -/
theorem en_take {w : World} {n k : Nat} {A : Option Addr} {l : List En} (h : EnOn w A n l) (hk : k ≤ n) : EnOn w A k (l.take k) := by
  obtain ⟨rs, h1, h2, h3⟩ := h
  refine ⟨rs.take k, ?_, by rw [List.length_take, List.length_take, h2], fun i r q hr hq => h3 i r q ?_ ?_⟩
  · rw [← rcs_take2]; exact reads_take2 h1 hk
  · rw [List.getElem?_take] at hr
    split at hr
    · exact hr
    · cases hr
  · rw [List.getElem?_take] at hq
    split at hq
    · exact hq
    · cases hq
/-- A text's cell is in no block that a put writes. -/
theorem text_far {w : World} {g : Nat} {mo : Option Nat} {X : List Kn} {p : Addr} {z : ByteArray} (h : Idx w g mo X) (hc : w.cell? p = some (.string z)) : p.block ≠ rowX g mo := by
  obtain ⟨hb, hm⟩ := h
  rcases hm with ⟨rfl, _⟩ | ⟨b, rfl, val, ⟨D, ho, _⟩, _⟩
  · intro e
    obtain ⟨pb, po, pf⟩ := p
    have e' : pb = g := e
    subst e'
    unfold Blk at hb
    cases pf with
    | none =>
      simp only [World.cell?, hb] at hc
      cases po with
      | zero => simp at hc
      | succ k => simp at hc
    | some q => simp [World.cell?, hb] at hc
  · obtain ⟨es, clock, hb2, _⟩ := ho
    intro e
    have e' : p.block = b := e
    rw [← e'] at hb2
    simp [World.cell?, hb2] at hc
theorem texts_put {w w' : World} {g n : Nat} {mo : Option Nat} {X : List Kn} {A : Option Addr} {L : List ByteArray} (h : Idx w g mo X) (hT : TxOn w A n L) (hg : w.grownBy w' (some (rowX g mo))) : TxOn w' A n L := by
  refine ⟨hT.1, fun hn => ?_⟩
  obtain ⟨ad, hA, hlt, hc⟩ := hT.2 hn
  refine ⟨ad, hA, Nat.lt_of_lt_of_le hlt hg.size, fun j u hu => ?_⟩
  have h1 := hc j u hu
  have h2 : ∃ z, u = .string z := by
    simp only [tcs, List.getElem?_map, Option.map_eq_some_iff] at hu
    obtain ⟨z, _, rfl⟩ := hu
    exact ⟨z, rfl⟩
  obtain ⟨z, rfl⟩ := h2
  have hne := text_far h h1
  exact (World.cell?_of_block (hg.block _ (by rw [block_of_add]; exact hlt) (fun e => hne (by injection e)))).trans h1
/-- A put: texts beside the index stay. -/
theorem putX_any {w : World} {B g : Nat} {l : List Kn} (nm : ByteArray) (bd : List UInt8) (A : Option Addr) (n c : Nat) (h : IdxB w B g l) (hl : RisesK l) (hlen : l.length ≤ 100000) (hr : Reads w B 1 A n (bcs bd)) (hnm : nm.size ≤ 1000000000) :
    Calls Try.prog 17 #[.pointer (some ⟨g, 0, none⟩), .string nm, .slice A n c] w fun e w' =>
      e = .returned (.int .i64 (errX l nm bd)) ∧ IdxB w' B g (putX l nm bd) ∧ Below B w w' ∧ ∀ (Ax : Option Addr) (nx : Nat) (L : List ByteArray), TxOn w Ax nx L → TxOn w' Ax nx L := by
  have hle := h.le
  obtain ⟨h1, mo, h2, h3⟩ := h
  refine (put_any g mo l nm bd A n c B w h2 hl hlen hr (IdxB.row h1 h3) hnm).mono ?_
  rintro e w' ⟨he, ⟨mo', h4, h5⟩, hg⟩
  refine ⟨he, ⟨h1, mo', h4, fun b hb => ?_⟩, (Below.refl _ _).grown hg hle (fun k hk => by injection hk with hk; rw [← hk]; exact IdxB.row h1 h3), fun Ax nx L hT => texts_put h2 hT hg⟩
  rcases h5 with rfl | ⟨_, b', e2, h6⟩
  · exact h3 b hb
  · rw [hb] at e2
    injection e2 with e2
    rw [e2]; exact Nat.le_trans hle h6
/-! What is told of what more is known. -/
theorem known_stays (l : List En) (k : Nat) : ∀ a v, atX (putsX [] (l.take k)) a = some v → atX (putsX [] l) a = some v := by
  intro a v h
  have e : putsX [] l = putsX (putsX [] (l.take k)) (l.drop k) := by rw [← putsX_append, List.take_append_drop]
  rw [e]
  exact puts_stay (putsX_rises List.Pairwise.nil _) h _
theorem reach_sub {X Y : List Kn} {root : List Nd} (hk : ∀ a v, atX X a = some v → atX Y a = some v) {a : ByteArray} (h : a ∈ reachX X root) : a ∈ reachX Y root := reachX_mem.2 (may_grows hk (reachX_mem.1 h))
theorem reach_same {X Y : List Kn} {root : List Nd} (hk : ∀ a v, atX X a = some v → atX Y a = some v) (hw : missX X root = []) : reachX X root = reachX Y root := by
  refine rises_unique (reachX_rises X root) (reachX_rises Y root) fun z => ⟨reach_sub hk, fun h => reachX_mem.2 (may_whole hk (fun a ha => ?_) (reachX_mem.1 h))⟩
  cases e : atX X a with
  | some v => rfl
  | none =>
    have : a ∈ missX X root := List.mem_filter.2 ⟨reachX_mem.2 ha, by rw [e]; rfl⟩
    rw [hw] at this
    cases this
/-- Is a name one of root's, or asked for by one of these? -/
def askedX (X : List Kn) (root : List Nd) (L : List ByteArray) (z : ByteArray) : Prop := z ∈ namesS root ∨ ∃ a ∈ L, z ∈ asksX X a
theorem reach_asked {X : List Kn} {root : List Nd} {z : ByteArray} (h : z ∈ reachX X root) : askedX X root (reachX X root) z := by
  rcases may_from (reachX_mem.1 h) with h | ⟨a, ha, hz⟩
  · exact .inl h
  · exact .inr ⟨a, reachX_mem.2 ha, hz⟩
theorem add_len {X : List Kn} {a z : ByteArray} : ((addF z false (asksF X a)).length = (asksF X a).length ↔ z ∈ asksX X a) := by
  unfold asksF
  rw [addF_there (foldN_rises _)]
  constructor
  · intro h
    split at h
    · rename_i h1; exact (foldN_mem _).1 h1
    · omega
  · intro h
    rw [if_pos ((foldN_mem _).2 h)]
theorem add_same {L : List ByteArray} (hl : RisesN L) {z : ByteArray} (h : z ∈ L) : (addF z false L).length = L.length := by rw [addF_there hl, if_pos h]
/-- Two names that stand one behind the other. -/
theorem next_less {L : List ByteArray} (hl : RisesN L) {i : Nat} {x y : ByteArray} (hx : L[i]? = some x) (hy : L[i + 1]? = some y) : nlt x y = true := by
  obtain ⟨h1, e1⟩ := List.getElem?_eq_some_iff.1 hx
  obtain ⟨h2, e2⟩ := List.getElem?_eq_some_iff.1 hy
  rw [← e1, ← e2]
  exact List.pairwise_iff_getElem.1 hl i (i + 1) h1 h2 (by omega)
end Go.Proofs.Ytdkcjjbnoeediaa.Reach
/-
  The contract of the law's asked: true of a name that is one of root's, or asked for by one of some names. Condition: lists and names of a length that may be walked.
-/
namespace Go.Proofs.Ytdkcjjbnoeediaa.Reach
open Go Go.RowKit Go.Lib Go.Sort Go.Proofs.Ytdkcjjbnoeediaa.Span Go.Proofs.Ytdkcjjbnoeediaa.Need Go.Proofs.Ytdkcjjbnoeediaa.Mani Go.Proofs.Ytdkcjjbnoeediaa.Wire Go.Proofs.Ytdkcjjbnoeediaa.Depot Go.Proofs.Ytdkcjjbnoeediaa.Index
set_option linter.unusedVariables false
theorem names_take {s : List Nd} {k : Nat} {y : Nd} {z : ByteArray} (h : s[k]? = some y) (h0 : ∀ x ∈ namesS (s.take k), x ≠ z) (hy : y.1 ≠ z) : ∀ x ∈ namesS (s.take (k + 1)), x ≠ z := by
  intro x hx
  rw [namesS_take h] at hx
  rcases List.mem_append.1 hx with hx | hx
  · exact h0 x hx
  · rw [List.mem_singleton.1 hx]; exact hy
theorem not_take {L : List ByteArray} {k : Nat} {y : ByteArray} {P : ByteArray → Prop} (h : L[k]? = some y) (h0 : ∀ x ∈ L.take k, ¬ P x) (hy : ¬ P y) : ∀ x ∈ L.take (k + 1), ¬ P x := by
  intro x hx
  rw [take_snoc' L k y h] at hx
  rcases List.mem_append.1 hx with hx | hx
  · exact h0 x hx
  · rw [List.mem_singleton.1 hx]; exact hy
set_option maxHeartbeats 8000000 in
set_option maxRecDepth 100000 in
theorem askedW_any (X : List Kn) (root : List Nd) (pv : Value) (L : List ByteArray) (z : ByteArray) (A1 A2 : Option Addr) (n1 c1 n2 c2 : Nat) (w : World) (hX : TellsX w pv X) (hf : FineX X) (h1 : NdOn w A1 n1 root) (hn1 : n1 ≤ 1000000) (h2 : TxOn w A2 n2 L) (hn2 : n2 ≤ 1000000) (hs : ShortN L) (hz : askedX X root L z) :
    Calls Try.prog 19 #[pv, .slice A1 n1 c1, .slice A2 n2 c2, .string z] w (Tells w (.bool true)) := by
  unfold Tells
  have Hl1 := hide h1.len
  have Hl2 := hide h2.len
  have Hz := hide hz
  have Hs := hide hs
  have HG := hide (fun (a : ByteArray) (wx : World) (hb : Below w.heap.size w wx) (ha : a.size ≤ 1000000000) => (hX a wx hb ha).1)
  unfold Gots at HG
  have Hgf := hide (fun (a : ByteArray) => asks_fine hf a)
  have Haf := hide (fun (a : ByteArray) => asksF_len hf a)
  have Hal := hide (fun (a : ByteArray) => add_len (X := X) (a := a) (z := z))
  have HA := hide (fun (l : List ByteArray) (A : Option Addr) (n c : Nat) (wx : World) (h : TxOn wx A n l) (hn : n ≤ 1000000) => add_any l z A n c wx h hn)
  unfold MakesT at HA
  clear hf hs hz hX
  go_enter Try.func19, Try.ntmps19
  go_wp2
  go_loopw [9] (fun v wr => ∃ i : Nat, i ≤ n1 ∧ v = .int .i64 (i : Int) ∧ Hid (∀ x ∈ namesS (root.take i), x ≠ z) ∧ Below w.heap.size w wr) (fun v _ => n1 - (RowKit.intOf v).toNat)
  case atStart => exact ⟨0, by omega, rfl, hide (fun x hx => by cases hx), Below.refl _ _⟩
  case round =>
    obtain ⟨i, hi, rfl, hne, hb⟩ := hrel
    have hbs := hb.size
    by_cases hlt : i < n1
    · obtain ⟨ad, q, A', n', c', rfl, hbl, hx, hq2, d1, d2⟩ := NdIn.at_ (NdIn.below h1 hb) hlt
      have hnx := hide (fun hy : q.1 ≠ z => names_take hx hne.out hy)
      obtain ⟨x, sp⟩ := q
      simp only [] at d1 d2 hnx hq2
      have he := eq_names x z
      clear hx hq2 hne HG Hgf Haf Hal HA Hl1 Hl2 Hz Hs h1 h2 d2
      by_cases hxz : x = z
      · rw [decide_eq_true hxz] at he
        clear hxz hnx
        go_wp2
        go_ret
        exact ⟨rfl, hb⟩
      · have Hx := hide hxz
        rw [decide_eq_false hxz] at he
        clear hxz
        go_wp2
        go_roundw
        case rel => exact ⟨i + 1, by omega, by go_num, hide (hnx.out Hx.out), hb⟩
        case measure => simp [RowKit.intOf]; omega
    · have hi2 : i = n1 := by omega
      have hnr : ∃ a ∈ L, z ∈ asksX X a := by
        have h0 := hne.out
        rw [List.take_of_length_le (by have := Hl1.out; omega)] at h0
        rcases Hz.out with g | g
        · exact absurd rfl (h0 z g)
        · exact g
      have Hex := hide hnr
      subst hi2
      clear hne hnr Hz Hl1 h1
      obtain ⟨W1, hW1⟩ : ∃ W1, W1 = wr := ⟨wr, rfl⟩
      subst hW1
      go_wp2
      go_loopw [10] (fun v wx => ∃ j : Nat, j ≤ n2 ∧ v = .int .i64 (j : Int) ∧ Hid (∀ a ∈ L.take j, ¬ z ∈ asksX X a) ∧ Below w.heap.size w wx) (fun v _ => n2 - (RowKit.intOf v).toNat)
      case atStart => exact ⟨0, by omega, rfl, hide (fun x hx => by cases hx), hb⟩
      case round =>
        obtain ⟨j, hj, rfl, hno, hbx⟩ := hrel
        have hbxs := hbx.size
        by_cases hlt2 : j < n2
        · obtain ⟨ad, y, rfl, had, hy, hc⟩ := tcs_at (h2.on hbx) hlt2
          have hys := Hs.out y (List.mem_of_getElem? hy)
          have Hnt := hide (fun hm : ¬ z ∈ asksX X y => not_take hy hno.out hm)
          have HGy := hide (HG.out y wr hbx hys)
          have HN := hide (fun (Az : Option Addr) (nz cz : Nat) (wx : World) (hx : RlOn wx Az nz (getX X y).1) => refNamesM_any y (getX X y).1 Az nz cz wx hx (Hgf.out y))
          unfold MakesT at HN
          have haf := Haf.out y
          have hal := hide (Hal.out y)
          clear hys hy hno HG Hgf Haf Hal Hex Hl2 Hs h2 hi hb hbs hlt
          by_cases hm : z ∈ asksX X y
          · have Hm := hide hm
            clear hm Hnt
            go_wp2_with (first
              | (go_at_call 27
                 refine HGy.out.mono ?_
                 rintro e w3 ⟨A3, n3, c3, B3, rs3, rfl, hR3, hb3⟩
                 have hR3' : RlOn (w3.alloc (.cells #[.string y, .slice A3 n3 c3] 61)) A3 n3 (getX X y).1 := (hR3.below (alloc_b _)).on
                 have hbx3 := hb3.trans ((alloc_b (w := w3) (.cells #[.string y, .slice A3 n3 c3] 61)).mono hb3.size))
              | (go_at_call 31
                 refine (HN.out _ _ _ _ hR3').mono ?_
                 rintro e w4 ⟨A4, n4, c4, rfl, hT4, hb4⟩
                 have hbx4 := hbx3.trans (hb4.mono hbx3.size)
                 have hT4' : TxOn w4 A4 n4 (asksF X y) := hT4
                 have hn4 : n4 ≤ 1200 := by rw [← hT4'.len]; exact haf)
              | (go_at_call 18
                 refine (HA.out _ _ _ _ _ hT4' (by omega)).mono ?_
                 rintro e w5 ⟨A5, n5, c5, rfl, hT5, hb5⟩
                 have h54 : n5 = n4 := by rw [← hT5.len, ← hT4'.len]; exact hal.out.2 Hm.out
                 have hbx5 := hbx4.trans (hb5.mono hbx4.size)
                 have hnn : ((n5 : Int) == (n4 : Int)) = true := by rw [h54]; exact beq_self_eq_true _))
            go_ret
            exact ⟨rfl, hbx.trans (hbx5.mono hbxs)⟩
          · have Hm := hide hm
            clear hm
            go_wp2_with (first
              | (go_at_call 27
                 refine HGy.out.mono ?_
                 rintro e w3 ⟨A3, n3, c3, B3, rs3, rfl, hR3, hb3⟩
                 have hR3' : RlOn (w3.alloc (.cells #[.string y, .slice A3 n3 c3] 61)) A3 n3 (getX X y).1 := (hR3.below (alloc_b _)).on
                 have hbx3 := hb3.trans ((alloc_b (w := w3) (.cells #[.string y, .slice A3 n3 c3] 61)).mono hb3.size))
              | (go_at_call 31
                 refine (HN.out _ _ _ _ hR3').mono ?_
                 rintro e w4 ⟨A4, n4, c4, rfl, hT4, hb4⟩
                 have hbx4 := hbx3.trans (hb4.mono hbx3.size)
                 have hT4' : TxOn w4 A4 n4 (asksF X y) := hT4
                 have hn4 : n4 ≤ 1200 := by rw [← hT4'.len]; exact haf)
              | (go_at_call 18
                 refine (HA.out _ _ _ _ _ hT4' (by omega)).mono ?_
                 rintro e w5 ⟨A5, n5, c5, rfl, hT5, hb5⟩
                 have h54 : ¬ n5 = n4 := fun e => Hm.out (hal.out.1 (by rw [hT5.len, hT4'.len]; exact e))
                 have hbx5 := hbx4.trans (hb5.mono hbx4.size)
                 have hnn : ((n5 : Int) == (n4 : Int)) = false := by
                   cases g : ((n5 : Int) == (n4 : Int)) with
                   | true => exact absurd (by have := eq_of_beq g; omega) h54
                   | false => rfl))
            go_roundw
            case rel => exact ⟨j + 1, by omega, by go_num, hide (Hnt.out Hm.out), hbx.trans (hbx5.mono hbxs)⟩
            case measure => simp [RowKit.intOf]; omega
        · exact absurd Hex.out (fun ⟨a, ha, hza⟩ => hno.out a (by rw [List.take_of_length_le (by have := Hl2.out; omega)]; exact ha) hza)
end Go.Proofs.Ytdkcjjbnoeediaa.Reach
