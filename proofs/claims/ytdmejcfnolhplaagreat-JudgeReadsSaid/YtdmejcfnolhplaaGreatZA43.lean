/-
  Some texts of this claim, one behind the other: ClashMeet. What each proves, and its condition, stands at its head.
-/
import Derived.Test.YtdmejcfnolhplaaGreatZA42
import Derived.Deep.RegionHeld3
/-
  The contract of the program's meet: the terms of each name, put together in a map. Condition: terms that may be, of a number, of sets and of names that may be walked.
-/
namespace Go.Proofs.YtdmejcfnolhplaaGreat.Clash
open Go Go.RowKit Go.Lib Go.Proofs.YtdmejcfnolhplaaGreat.Span Go.Proofs.YtdmejcfnolhplaaGreat.Need Go.Proofs.YtdmejcfnolhplaaGreat.Grow Go.Proofs.YtdmejcfnolhplaaGreat.Term
open Go.Proofs.YtdmejcfnolhplaaGreat.Label (runes fitL)
set_option linter.unusedVariables false
def MeetsC (w : World) (l : List Tm) (n : Nat) (e : Ending) (w' : World) : Prop := e = .returned (.map (some w.heap.size)) ∧ MapC w' w.heap.size n (putsC l) ∧ Below w.heap.size w w'
set_option maxHeartbeats 8000000 in
set_option maxRecDepth 100000 in
theorem meetC_any (l : List Tm) (A : Option Addr) (n c : Nat) (w : World) (h : TmOn w A n l) (hl : FineC l) (hok : ∀ t ∈ l, okT t = true) :
    Calls Tryz.prog 105 #[.slice A n c] w (MeetsC w l n) := by
  unfold MeetsC
  have hlen := hide h.len
  have hn : n ≤ 1000 := by rw [← h.len]; exact hl.1
  have hmm := @run_makeMap Tryz.prog
  have HP := hide (fun (i : Nat) (t : Tm) (hx : l[i]? = some t) => puts_snoc l hx)
  have HR := hide (fun (i : Nat) => puts_ok (l := l.take i) fun t ht => hok t (List.mem_of_mem_take ht))
  have HO := hide (fun t (ht : t ∈ l) => show t.name.size ≤ 1000000000 ∧ okT t = true from ⟨hl.2.2 t ht, hok t ht⟩)
  clear hl hok
  go_enter Tryz.func105, Tryz.ntmps105
  go_wp2
  go_loopw [11] (fun v wr => ∃ i : Nat, i ≤ n ∧ v = .int .i64 (i : Int) ∧ MapC wr w.heap.size i (putsC (l.take i)) ∧ Below w.heap.size w wr) (fun v _ => n - (RowKit.intOf v).toNat)
  case atStart => exact ⟨0, by omega, rfl, MapC.made w, alloc_b _⟩
  case round =>
    obtain ⟨i, hi, rfl, hM, hb⟩ := hrel
    have hbs := hb.size
    have hMl := hM.lt
    clear hmm
    by_cases hlt : i < n
    · obtain ⟨ad, t, A', n', c', rfl, hbl, hx, hs, c1, c2, c3⟩ := TmIn.at_ (TmIn.below h hb) hlt
      obtain ⟨hnm, hot⟩ := HO.out t (List.mem_of_getElem? hx)
      have HE2 := hide (HP.out i t hx)
      obtain ⟨hrise, hall⟩ := HR.out i
      have Hrise := hide hrise
      have Hcap : Hid (i < maxLen) := hide (by unfold maxLen; omega)
      have Hsz : Hid (t.name.size ≤ maxLen) := hide (by unfold maxLen; omega)
      obtain ⟨V, hV⟩ : ∃ V, V = wr.alloc (.cells #[.string t.name, .slice A' n' c', .bool t.none] 77) := ⟨_, rfl⟩
      have hbV : Below wr.heap.size wr V := by rw [hV]; exact alloc_b _
      have bt : Blk V wr.heap.size 77 #[.string t.name, .slice A' n' c', .bool t.none] := by rw [hV]; exact Blk.new _ _ _
      have hsV : SpOn V A' n' t.set := (((hs.more hbs).below hbV).more hbV.size)
      have hbw : Below w.heap.size w V := hb.trans (hbV.mono hbs)
      have hVs := hbw.size
      have hMV := hM.below hbV
      have hVl : w.heap.size < V.heap.size := hMV.lt
      have hst := okT_set hot
      have h5b : wr.heap.size ≠ w.heap.size := by omega
      have hgV : wr.heap.size < V.heap.size := bt.lt
      have k0 := (bt.cell 0).trans (show (#[Value.string t.name, .slice A' n' c', .bool t.none] : Array Value)[0]? = some (.string t.name) from rfl)
      obtain ⟨g5, hg5⟩ : ∃ g, g = wr.heap.size := ⟨_, rfl⟩
      go_upto_region 5 with fail
      try rw [← hV]
      try rw [← hg5]
      rw [← hg5] at bt h5b hgV k0
      have Hg5 := hide hg5
      clear hg5
      clear hV hx hs h HP HR c1 c2 c3 hM hrise HO hMl
      rcases MapC.look_ok hMV Hsz.out with ⟨hf, hlk⟩ | ⟨a, Aa, na, ca, hf, hIa, hlk⟩
      · obtain ⟨U0, hU0⟩ : ∃ U, U = V.alloc (.cells #[.string ⟨#[]⟩, .slice none 0 0, .bool false] 77) := ⟨_, rfl⟩
        have hbU : Below V.heap.size V U0 := by rw [hU0]; exact alloc_b _
        have b60 : Blk U0 V.heap.size 77 #[.string ⟨#[]⟩, .slice none 0 0, .bool false] := by rw [hU0]; exact Blk.new _ _ _
        have b50 := bt.below hbU bt.lt
        have hz : (t : Tm) = match findC (putsC (l.take i)) t.name with | some y => meetT y t | none => t := by rw [hf]
        have Hz := hide hz
        have hfull := meet_fullT hot
        have HF := hide (fun (wx : World) => fullC_any t.name wx hnm)
        unfold MakesT fullOf at HF
        unfold fullOf at hfull
        have h6b : V.heap.size ≠ w.heap.size := by omega
        have hU0s := hbU.size
        have ku0 := (b50.cell 0).trans (show (#[Value.string t.name, .slice A' n' c', .bool t.none] : Array Value)[0]? = some (.string t.name) from rfl)
        clear hz hf
        go_upto_region 7 with fail
        try rw [← hU0]
        obtain ⟨g6, hg6⟩ : ∃ g, g = V.heap.size := ⟨_, rfl⟩
        try rw [← hg6]
        rw [← hg6] at b60 h6b
        have hg56 : g5 < g6 := by omega
        have Hg6 := hide hg6
        clear hU0 hlk k0 hg6
        go_upto_region 8 with (first
          | (go_at_call 117
             refine (HF.out _).mono ?_
             rintro e w4 ⟨Aa, na, ca, rfl, hN4, hb4⟩
             have b54 := b50.below hb4 b50.lt
             have b64 := b60.below hb4 b60.lt
             have k60 := b64.cell 0
             have k61 := b64.cell 1
             have k62 := b64.cell 2
             have f60 := b64.frozen 0
             have f61 := b64.frozen 1
             have f62 := b64.frozen 2))
        obtain ⟨U, hU⟩ : ∃ U, U = ((w4.setCell ⟨g6, 0, none⟩ (.string t.name)).setCell ⟨g6, 1, none⟩ (.slice Aa na ca)).setCell ⟨g6, 2, none⟩ (.bool true) := ⟨_, rfl⟩
        have hl6 := b60.lt
        have h56 : g5 ≠ g6 := by omega
        have hg6 := Hg6.out
        have b6 : Blk U g6 77 #[.string t.name, .slice Aa na ca, .bool true] := by rw [hU]; exact stored_row b64 rfl
        have b5 : Blk U g5 77 #[.string t.name, .slice A' n' c', .bool t.none] := by rw [hU]; exact ((b54.far (p := ⟨g6, 0, none⟩) h56 _).far (p := ⟨g6, 1, none⟩) h56 _).far (p := ⟨g6, 2, none⟩) h56 _
        have hbV4 : Below V.heap.size V w4 := hbU.trans (hb4.mono hU0s)
        have hbVU : Below V.heap.size V U := by rw [hU]; exact three_at hbV4 (by omega) _ _ _
        have hNa : NewS U U0.heap.size Aa na ca allS := by rw [hU]; exact three_new hN4 (by omega) _ _ _
        have hmU : MapC U w.heap.size i (putsC (l.take i)) := hMV.below hbVU
        have hsU : SpOn U A' n' t.set := hsV.on hbVU
        have hbU0 : Below w.heap.size w U := hbw.trans (hbVU.mono hVs)
        have HM := hide (fun (wx : World) (hx : Below U.heap.size U wx) => meetT_any t.name t.name allS t.set true t.none Aa A' na ca n' c' wx ((on_new hNa).on hx) (hsU.on hx) hnm allS_set hst)
        rw [show meetT ⟨t.name, allS, true⟩ ⟨t.name, t.set, t.none⟩ = t from hfull] at HM
        unfold MakesT at HM
        try rw [← hU]
        clear hU b54 b64 k60 k61 k62 f60 f61 f62 hN4 hb4 b50 b60 bt hMV hsV HF hNa ku0 hfull hU0s hl6 hbV4 hg6
        generalize allS = LA at *
        have hUw : Below w.heap.size w U := hbU0
        have hUs := hUw.size
        have hlt5 := b5.lt
        have hlt6 := b6.lt
        have HE := hide (fun (wx : World) (h1 : Below U.heap.size U wx) => (⟨((b5.below h1 b5.lt).cell 0).trans rfl, ((b5.below h1 b5.lt).cell 1).trans rfl, ((b5.below h1 b5.lt).cell 2).trans rfl, ((b6.below h1 b6.lt).cell 0).trans rfl, ((b6.below h1 b6.lt).cell 1).trans rfl, ((b6.below h1 b6.lt).cell 2).trans rfl⟩ :
          wx.cell? ⟨g5, 0, none⟩ = some (.string t.name) ∧ wx.cell? ⟨g5, 1, none⟩ = some (.slice A' n' c') ∧ wx.cell? ⟨g5, 2, none⟩ = some (.bool t.none) ∧ wx.cell? ⟨g6, 0, none⟩ = some (.string t.name) ∧ wx.cell? ⟨g6, 1, none⟩ = some (.slice Aa na ca) ∧ wx.cell? ⟨g6, 2, none⟩ = some (.bool true)))
        have kdU : Below U.heap.size U U.drew := (Below.refl _ _).drew
        have kc := HE.out U (Below.refl _ _)
        have kcd := HE.out _ kdU
        go_region_held3 (fun w' => w'.cell? ⟨g5, 0, none⟩ = some (.string t.name) ∧ w'.cell? ⟨g5, 1, none⟩ = some (.slice A' n' c') ∧ w'.cell? ⟨g5, 2, none⟩ = some (.bool t.none) ∧ w'.cell? ⟨g6, 0, none⟩ = some (.string t.name) ∧ w'.cell? ⟨g6, 1, none⟩ = some (.slice Aa na ca) ∧ w'.cell? ⟨g6, 2, none⟩ = some (.bool true)) (first | exact kc9 | exact kc8 | exact kcd | exact kc | go_keep)
          (first
            | (go_at_call 116
               refine (HM.out _ kdU).mono ?_
               rintro e w8 ⟨A8, n8, c8, rfl, hN8, hb8⟩
               have hb8k : Below U.heap.size U w8 := kdU.trans hb8
               have kc8 := HE.out _ hb8k
               obtain ⟨w9, hrun9, hm9, hg9⟩ := MapC.store (e := c8) (hmU.below hb8k) Hrise.out Hcap.out (InS.of_new hN8) Hz.out Hsz.out
               have hb8w : Below w.heap.size w w8 := hUw.trans (hb8k.mono hUs)
               have hs8w := hb8w.size
               have b59 := (b5.below hb8k b5.lt).grown hg9 (by intro e; injection e with e; exact h5b e)
               have b69 := (b6.below hb8k b6.lt).grown hg9 (by intro e; injection e with e; exact h6b e)
               have kc9 : w9.cell? ⟨g5, 0, none⟩ = some (.string t.name) ∧ w9.cell? ⟨g5, 1, none⟩ = some (.slice A' n' c') ∧ w9.cell? ⟨g5, 2, none⟩ = some (.bool t.none) ∧ w9.cell? ⟨g6, 0, none⟩ = some (.string t.name) ∧ w9.cell? ⟨g6, 1, none⟩ = some (.slice Aa na ca) ∧ w9.cell? ⟨g6, 2, none⟩ = some (.bool true) := ⟨(b59.cell 0).trans rfl, (b59.cell 1).trans rfl, (b59.cell 2).trans rfl, (b69.cell 0).trans rfl, (b69.cell 1).trans rfl, (b69.cell 2).trans rfl⟩))
        have hbz : Below w.heap.size w w9 := hb8w.grown hg9 hs8w (fun k hk => by injection hk with hk; omega)
        rw [← HE2.out] at hm9
        go_wp2
        go_roundw
        case rel => exact ⟨i + 1, by omega, by go_num, hm9, hbz⟩
        case measure => simp [RowKit.intOf]; omega
      · obtain ⟨U, hU⟩ : ∃ U, U = V.alloc (.cells #[.string a.name, .slice Aa na ca, .bool a.none] 77) := ⟨_, rfl⟩
        have hbVU : Below V.heap.size V U := by rw [hU]; exact alloc_b _
        have b6 : Blk U V.heap.size 77 #[.string a.name, .slice Aa na ca, .bool a.none] := by rw [hU]; exact Blk.new _ _ _
        have b5 := bt.below hbVU bt.lt
        have hz : meetT a t = match findC (putsC (l.take i)) t.name with | some y => meetT y t | none => t := by rw [hf]
        have Hz := hide hz
        have Hfm := hide (find_name hf)
        have hoa := hall a Hfm.out.1
        have hanm : a.name.size ≤ 1000000000 := by rw [Hfm.out.2]; exact hnm
        have h6b : V.heap.size ≠ w.heap.size := by omega
        have hmU : MapC U w.heap.size i (putsC (l.take i)) := hMV.below hbVU
        have hsU : SpOn U A' n' t.set := hsV.on hbVU
        have hsa : SpOn U Aa na a.set := SpOn.on hIa.1 hbVU
        have hbU0 : Below w.heap.size w U := hbw.trans (hbVU.mono hVs)
        have HM := hide (fun (wx : World) (hx : Below U.heap.size U wx) => meetT_any a.name t.name a.set t.set a.none t.none Aa A' na ca n' c' wx (hsa.on hx) (hsU.on hx) hanm (okT_set hoa) hst)
        rw [show meetT ⟨a.name, a.set, a.none⟩ ⟨t.name, t.set, t.none⟩ = meetT a t from rfl] at HM
        unfold MakesT at HM
        clear hz hf
        go_upto_region 8 with fail
        try rw [← hU]
        obtain ⟨g6, hg6⟩ : ∃ g, g = V.heap.size := ⟨_, rfl⟩
        try rw [← hg6]
        rw [← hg6] at b6 h6b
        clear hg6 hU hlk k0 bt hMV hsV hIa hoa hall hsa hsU
        generalize meetT a t = mt at *
        have hUw : Below w.heap.size w U := hbU0
        have hUs := hUw.size
        have hlt5 := b5.lt
        have hlt6 := b6.lt
        have HE := hide (fun (wx : World) (h1 : Below U.heap.size U wx) => (⟨((b5.below h1 b5.lt).cell 0).trans rfl, ((b5.below h1 b5.lt).cell 1).trans rfl, ((b5.below h1 b5.lt).cell 2).trans rfl, ((b6.below h1 b6.lt).cell 0).trans rfl, ((b6.below h1 b6.lt).cell 1).trans rfl, ((b6.below h1 b6.lt).cell 2).trans rfl⟩ :
          wx.cell? ⟨g5, 0, none⟩ = some (.string t.name) ∧ wx.cell? ⟨g5, 1, none⟩ = some (.slice A' n' c') ∧ wx.cell? ⟨g5, 2, none⟩ = some (.bool t.none) ∧ wx.cell? ⟨g6, 0, none⟩ = some (.string a.name) ∧ wx.cell? ⟨g6, 1, none⟩ = some (.slice Aa na ca) ∧ wx.cell? ⟨g6, 2, none⟩ = some (.bool a.none)))
        have kdU : Below U.heap.size U U.drew := (Below.refl _ _).drew
        have kc := HE.out U (Below.refl _ _)
        have kcd := HE.out _ kdU
        go_region_held3 (fun w' => w'.cell? ⟨g5, 0, none⟩ = some (.string t.name) ∧ w'.cell? ⟨g5, 1, none⟩ = some (.slice A' n' c') ∧ w'.cell? ⟨g5, 2, none⟩ = some (.bool t.none) ∧ w'.cell? ⟨g6, 0, none⟩ = some (.string a.name) ∧ w'.cell? ⟨g6, 1, none⟩ = some (.slice Aa na ca) ∧ w'.cell? ⟨g6, 2, none⟩ = some (.bool a.none)) (first | exact kc9 | exact kc8 | exact kcd | exact kc | go_keep)
          (first
            | (go_at_call 116
               refine (HM.out _ kdU).mono ?_
               rintro e w8 ⟨A8, n8, c8, rfl, hN8, hb8⟩
               have hb8k : Below U.heap.size U w8 := kdU.trans hb8
               have kc8 := HE.out _ hb8k
               obtain ⟨w9, hrun9, hm9, hg9⟩ := MapC.store (e := c8) (hmU.below hb8k) Hrise.out Hcap.out (InS.of_new hN8) Hz.out Hsz.out
               have hb8w : Below w.heap.size w w8 := hUw.trans (hb8k.mono hUs)
               have hs8w := hb8w.size
               have b59 := (b5.below hb8k b5.lt).grown hg9 (by intro e; injection e with e; exact h5b e)
               have b69 := (b6.below hb8k b6.lt).grown hg9 (by intro e; injection e with e; exact h6b e)
               have kc9 : w9.cell? ⟨g5, 0, none⟩ = some (.string t.name) ∧ w9.cell? ⟨g5, 1, none⟩ = some (.slice A' n' c') ∧ w9.cell? ⟨g5, 2, none⟩ = some (.bool t.none) ∧ w9.cell? ⟨g6, 0, none⟩ = some (.string a.name) ∧ w9.cell? ⟨g6, 1, none⟩ = some (.slice Aa na ca) ∧ w9.cell? ⟨g6, 2, none⟩ = some (.bool a.none) := ⟨(b59.cell 0).trans rfl, (b59.cell 1).trans rfl, (b59.cell 2).trans rfl, (b69.cell 0).trans rfl, (b69.cell 1).trans rfl, (b69.cell 2).trans rfl⟩))
        have hbz : Below w.heap.size w w9 := hb8w.grown hg9 hs8w (fun k hk => by injection hk with hk; omega)
        rw [← HE2.out] at hm9
        go_wp2
        go_roundw
        case rel => exact ⟨i + 1, by omega, by go_num, hm9, hbz⟩
        case measure => simp [RowKit.intOf]; omega
    · have hi2 : i = n := by omega
      subst hi2
      rw [List.take_of_length_le (by rw [hlen.out]; exact Nat.le_refl _)] at hM
      clear h HP HR HO
      go_wp2
      go_ret
      exact ⟨rfl, hM, hb⟩
end Go.Proofs.YtdmejcfnolhplaaGreat.Clash
