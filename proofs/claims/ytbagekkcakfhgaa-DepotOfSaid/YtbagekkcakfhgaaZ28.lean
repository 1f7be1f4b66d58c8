/-
  Some texts of this claim, one behind the other: DepotBody. What each proves, and its condition, stands at its head.
-/
import Derived.Test.YtbagekkcakfhgaaZ22
import Derived.Test.YtbagekkcakfhgaaZ27
/-
  The contracts of the program's Body and the document's: a name's body. Condition: the slices read as entries that may be; a name of at most 1,000,000,000 bytes.
-/
namespace Go.Proofs.Ytbagekkcakfhgaa.Depot
open Go Go.RowKit Go.Lib Go.Proofs.Ytbagekkcakfhgaa.Span Go.Proofs.Ytbagekkcakfhgaa.Need Go.Proofs.Ytbagekkcakfhgaa.Mani Go.Proofs.Ytbagekkcakfhgaa.Wire
set_option linter.unusedVariables false
theorem fineR_nil : FineR [] := ⟨by decide, fun q hq => by cases hq⟩
set_option maxHeartbeats 4000000 in
set_option maxRecDepth 100000 in
theorem body_any (nm : ByteArray) (l : List En) (A : Option Addr) (n c : Nat) (w : World) (h : EnOn w A n l) (hr : RisesE l) (hl : ∀ q ∈ l, q.2.length ≤ 8192) (hn : n ≤ 1000) (hnm : nm.size ≤ 1000000000) :
    Calls Try.prog 12 #[.slice A n c, .string nm] w (MakesB w (bodyE l nm)) := by
  unfold MakesB
  obtain ⟨i0, hi0, hz0, hz1, hz2⟩ := info_parts info_u8
  have hlen := h.len
  obtain ⟨p, hp, ha, hb, hc⟩ := place hr nm
  rw [hlen] at hp hc
  obtain ⟨W, hW⟩ : ∃ W, W = (w.alloc (.cells #[.slice A n c] 22)).alloc (.cells #[.string nm] 9) := ⟨_, rfl⟩
  have b2 : Blk W w.heap.size 22 #[.slice A n c] := by rw [hW]; exact (Blk.new w _ _).alloc _
  have b1 : Blk W (w.heap.size + 1) 9 #[.string nm] := by
    rw [hW]
    have := Blk.new (w.alloc (.cells #[.slice A n c] 22)) 9 #[.string nm]
    rwa [World.size_alloc] at this
  have hbw : Below w.heap.size w W := by rw [hW]; exact ((Below.refl _ _).alloc (Nat.le_refl _) _).alloc (by simp) _
  have hsz : w.heap.size + 2 ≤ W.heap.size := by rw [hW]; simp
  have hbs := hbw.size
  have hW0 := h.on hbw
  rcases hc with ⟨hf, hne⟩ | ⟨b, hx, h0, hf⟩
  · rw [bodyE_none hf]
    have HF := hide (find_any nm l A n c (w.heap.size + 1) w.heap.size p false W hW0 b1 b2 hn hp ha hb (fun g => decide_eq_false (hne g)) (fun _ => rfl))
    unfold Tells at HF
    have HP := hide (fun wx => putM_any nm [] none 0 0 wx (RlIn.nil _ _ _) fineR_nil hnm)
    unfold MakesB at HP
    clear h hr hl hlen ha hb hne hf hp
    have k2 := (b2.cell 0).trans (show (#[Value.slice A n c] : Array Value)[0]? = some (.slice A n c) from rfl)
    go_enter Try.func12, Try.ntmps12
    go_upto_region 1 with fail
    rw [← hW]
    clear hW
    go_wp2_with (first
      | (go_at_call 28
         refine HF.out.mono ?_
         rintro e w1 ⟨rfl, hb1⟩
         have b1' := b1.below hb1 b1.lt
         have k1 := (b1'.cell 0).trans (show (#[Value.string nm] : Array Value)[0]? = some (.string nm) from rfl)
         have hbw1 := hbw.trans (hb1.mono hbs)
         have hbs1 := hbw1.size)
      | (go_at_call 31
         refine (HP.out _).mono ?_
         rintro e w2 ⟨A2, n2, c2, rfl, hn2, hb2⟩
         have hbw2 := hbw1.trans (hb2.mono hbs1)))
    go_ret
    exact ⟨A2, n2, c2, rfl, hn2.less hbs1, hbw2⟩
  · rw [bodyE_some hf]
    have hpn : p < n := by rw [← hlen]; exact (List.getElem?_eq_some_iff.1 hx).1
    have HF := hide (find_any nm l A n c (w.heap.size + 1) w.heap.size p true W hW0 b1 b2 hn hp ha hb (fun _ => decide_eq_true h0) (fun g => by omega))
    unfold Tells at HF
    obtain ⟨ad, q, A', n', c', rfl, hbl, hq, hs, c1, c2⟩ := PIn.at_ hW0 hpn
    rw [hx] at hq
    injection hq with hq
    subst hq
    have hrd : Reads W W.heap.size 1 A' n' (bcs b) := hs
    have hbl8 : n' ≤ 8192 := by
      have h1 : (bcs b).length = n' * 1 := hrd.1
      rw [bcs_length] at h1
      have h2 : b.length ≤ 8192 := hl _ (List.mem_of_getElem? hx)
      omega
    clear h hr hl hlen ha hb hf hp h0 hx hW0 hs c1
    have k2 := (b2.cell 0).trans (show (#[Value.slice (some ad) n c] : Array Value)[0]? = some (.slice (some ad) n c) from rfl)
    go_enter Try.func12, Try.ntmps12
    go_upto_region 1 with fail
    rw [← hW]
    clear hW
    go_wp2_with (first
      | (go_at_call 28
         refine HF.out.mono ?_
         rintro e w1 ⟨rfl, hb1⟩
         have b2' := b2.below hb1 b2.lt
         have k3 := (b2'.cell 0).trans (show (#[Value.slice (some ad) n c] : Array Value)[0]? = some (.slice (some ad) n c) from rfl)
         have k4 := (hb1.cell (p := ⟨(ad.add (p * 2)).block, (ad.add (p * 2)).off + 1, none⟩) (by simp only [block_of_add]; exact hbl)).trans c2
         have hrd1 := (hrd.below hb1).more hb1.size
         have hbw1 := hbw.trans (hb1.mono hbs)
         have hbs1 := hbw1.size)
      | (at_builtin
         refine wpList_append_any _ rfl _ (.tmp 23) _ rfl w.heap.size 5 i0 _ 1 1 Try.underlying31 hi0 hz0 hz1 hz2 rfl (by omega) (.slice none 0 0) 0 [] rfl
           (World.ownsRow_nil _ _ _ _) _ A' n' c' _ rfl hrd1 (bcs_one _) (by simp only [maxLen]; omega) (by omega) hbs1 ?_
         intro v3 w3 hown3 hg3 hat3
         have hb3 : Below w.heap.size w w3 := hbw1.grown hg3 hbs1 (fun k hk => by simp [Value.ownBlock] at hk)
         rw [List.nil_append, Nat.zero_add] at hown3
         obtain ⟨A3, c3, rfl, hn3⟩ := new_of_own hown3))
    go_ret
    exact ⟨A3, n', c3, rfl, hn3, hb3⟩
set_option maxHeartbeats 4000000 in
set_option maxRecDepth 100000 in
theorem refBody_any (nm : ByteArray) (l : List En) (A : Option Addr) (n c : Nat) (w : World) (h : EnOn w A n l) (hn : n ≤ 140737488355328) (hnm : nm.size ≤ 1000000000) :
    Calls Try.prog 13 #[.slice A n c, .string nm] w (Tells w (.string (str (bodyE l nm)))) := by
  unfold Tells
  have Hlen := hide h.len
  have Hd := hide (fun i q => @findE_drop l nm i q)
  have HP := hide (fun wx => refPutM_any nm [] none 0 0 wx (RlIn.nil _ _ _) fineR_nil hnm)
  unfold Tells at HP
  obtain ⟨r, hr⟩ : ∃ r, r = findE l nm := ⟨_, rfl⟩
  have Hr := hide hr
  have Hs := hide (fun b (g : r = some b) => bodyE_some (l := l) (nm := nm) (by rw [← hr, g]))
  have Hn := hide (fun (g : r = none) => bodyE_none (l := l) (nm := nm) (by rw [← hr, g]))
  clear hr
  generalize bodyE l nm = R at *
  go_enter Try.func13, Try.ntmps13
  go_wp2
  go_loopw [5] (fun v wr => ∃ i : Nat, i ≤ n ∧ v = .int .i64 (i : Int) ∧ Hid (r = findE (l.drop i) nm) ∧ Below w.heap.size w wr) (fun v _ => n - (RowKit.intOf v).toNat)
  case atStart => exact ⟨0, by omega, rfl, Hr, Below.refl _ _⟩
  case round =>
    obtain ⟨i, hi, rfl, hf, hb⟩ := hrel
    have hbs := hb.size
    by_cases hlt : i < n
    · obtain ⟨ad, q, A', n', c', rfl, hbl, hx, hs, c1, c2⟩ := PIn.at_ (EnIn.below h hb) hlt
      have hd := hf.out.trans (Hd.out i q hx)
      obtain ⟨x, s⟩ := q
      have hrd : Reads wr w.heap.size 1 A' n' (bcs s) := hs
      simp only [] at c1 c2 hd
      have he := eq_names x nm
      have hcv := conv_of (c := c') hrd
      clear hx hf hs Hr h
      by_cases hxn : x = nm
      · rw [if_pos hxn] at hd
        rw [decide_eq_true hxn] at he
        have E := hide (Hs.out s hd)
        clear hxn hd Hs Hn
        go_wp2
        go_ret
        exact ⟨by rw [E.out]; rfl, hb⟩
      · rw [if_neg hxn] at hd
        rw [decide_eq_false hxn] at he
        have Hd2 := hide hd
        clear hxn hd
        go_wp2
        go_roundw
        case rel => exact ⟨i + 1, by omega, by go_num, Hd2, hb⟩
        case measure => simp [RowKit.intOf]; omega
    · have hi2 : i = n := by omega
      have E := hide (Hn.out (by rw [hf.out, hi2, List.drop_of_length_le (by have := Hlen.out; omega)]; rfl))
      clear hf Hr Hs Hn
      go_wp2_with (first
        | (go_at_call 32
           refine (HP.out _).mono ?_
           rintro e w2 ⟨rfl, hb2⟩
           have hbw2 := hb.trans (hb2.mono hbs)))
      go_ret
      exact ⟨by rw [E.out]; rfl, hbw2⟩
end Go.Proofs.Ytbagekkcakfhgaa.Depot
