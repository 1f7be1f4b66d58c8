/-
  Some texts of this claim, one behind the other: ManiKeys, ClashKeys, ClashMake, FactMakeR. What each proves, and its condition, stands at its head.
-/
import Derived.Test.YtdmejcfnolhplaaGreatZA17
import Derived.Shelf.SlIter.Nil
import Derived.Test.YtdmejcfnolhplaaGreatZA4
import Derived.Test.YtdmejcfnolhplaaGreatZA42
import Derived.Test.YtdmejcfnolhplaaGreatZA43
import Derived.Test.YtdmejcfnolhplaaGreatZA39
/-
  The library's Keys and Sorted, laid at this program: what the sorted keys of a map of names are. Condition: fewer entries than a slice may have.
-/
namespace Go.Proofs.YtdmejcfnolhplaaGreat.Mani
open Go Go.RowKit Go.Maps Go.Sort Go.Shelf
set_option linter.unusedVariables false
def sortedRen : Ren := ⟨fun | 6 => 106 | 8 => 141 | 9 => 142 | 11 => 159 | n => n, fun | 0 => 0 | 24 => 164 | 26 => 9 | 28 => 167 | 33 => 61 | n => n, fun n => n⟩
theorem sortedLays : SlLaysZ.n6 Tryz.prog sortedRen := {
  mixed := by kernel_rfl
  f6 := ⟨ "slices.Sorted[string]", by decide, Tryz.func106.trans (congrArg some (by kernel_rfl))⟩
  f8 := ⟨ "slices.Collect[string]", by decide, Tryz.func141.trans (congrArg some (by kernel_rfl))⟩
  f11 := ⟨ "slices.AppendSeq[[]string,string]", by decide, Tryz.func159.trans (congrArg some (by kernel_rfl))⟩
  t0 := Tryz.underlying0
  a0 := Tryz.isAgg0
  z0 := Tryz.sizeOf0
  v0 := Tryz.zeroValue0
  t24 := Tryz.underlying164
  a24 := Tryz.isAgg164
  z24 := Tryz.sizeOf164
  v24 := Tryz.zeroValue164
  t26 := Tryz.underlying9
  a26 := Tryz.isAgg9
  z26 := Tryz.sizeOf9
  v26 := Tryz.zeroValue9
  t28 := Tryz.underlying167
  a28 := Tryz.isAgg167
  z28 := Tryz.sizeOf167
  v28 := Tryz.zeroValue167
  i26 := by kernel_rfl }
theorem lays_sort (m : Nat) : AnyZ.SortsIn Tryz.prog sortedRen Fence.wide m :=
  ⟨fun blk off cap ss W hH hblk hsz => callsIn_wide.2 (AnyM.slices_Sort_string sortLays blk off cap ss W hH hblk hsz), fun p cap W => callsIn_wide.2 (AnyM.slices_Sort_string_none sortLays p cap W)⟩
end Go.Proofs.YtdmejcfnolhplaaGreat.Mani
/-
  The library's Keys at a map of terms, laid at this program: what the sorted keys of such a map are. Condition: fewer entries than a slice may have.
-/
namespace Go.Proofs.YtdmejcfnolhplaaGreat.Clash
open Go Go.RowKit Go.Maps Go.Sort Go.Shelf Go.Proofs.YtdmejcfnolhplaaGreat.Mani
set_option linter.unusedVariables false
def keysRenC : Ren := ⟨fun | 7 => 107 | 10 => 143 | n => n, fun | 0 => 0 | 3 => 77 | 4 => 4 | 23 => 162 | 26 => 9 | 27 => 166 | 28 => 167 | 33 => 61 | n => n, fun n => n⟩
theorem keysLaysC : SlLaysZ.n7 Tryz.prog keysRenC := {
  mixed := by kernel_rfl
  f7 := ⟨Tryz.f107.name, by decide, Tryz.func107.trans (congrArg some (by kernel_rfl))⟩
  f10 := ⟨Tryz.f143.name, by decide, Tryz.func143.trans (congrArg some (by kernel_rfl))⟩
  t0 := Tryz.underlying0
  a0 := Tryz.isAgg0
  z0 := Tryz.sizeOf0
  v0 := Tryz.zeroValue0
  t4 := Tryz.underlying4
  a4 := Tryz.isAgg4
  z4 := Tryz.sizeOf4
  v4 := Tryz.zeroValue4
  t23 := Tryz.underlying162
  a23 := Tryz.isAgg162
  z23 := Tryz.sizeOf162
  v23 := Tryz.zeroValue162
  t26 := Tryz.underlying9
  a26 := Tryz.isAgg9
  z26 := Tryz.sizeOf9
  v26 := Tryz.zeroValue9
  t27 := Tryz.underlying166
  a27 := Tryz.isAgg166
  z27 := Tryz.sizeOf166
  v27 := Tryz.zeroValue166
  t28 := Tryz.underlying167
  a28 := Tryz.isAgg167
  z28 := Tryz.sizeOf167
  v28 := Tryz.zeroValue167
  t33 := Tryz.underlying61
  a33 := Tryz.isAgg61
  z33 := Tryz.sizeOf61
  v33 := Tryz.zeroValue61 }
theorem keysC_any (b : Nat) (W : World) : Calls Tryz.prog 107 #[.map (some b)] W fun e w' => e = .returned (.func (.func 143) #[] #[.pointer (some ⟨W.heap.size, 0, none⟩)]) ∧ w' = W.alloc (.cells #[.map (some b)] 162) :=
  (callsIn_wide (n := 5)).1 (AnyZ.keys_in keysLaysC Fence.wide 5 trivial rfl (some b) W)
set_option maxHeartbeats 1000000 in
theorem sortedC_any (b nn : Nat) (D0 : DataW Value) (R : Value → Option (DataW Value × List MemPlace)) (w : World) (hown : w.ownsMap Tryz.prog 9 R b nn D0) (hsz : Maps.size D0 ≤ 100000) :
    Calls Tryz.prog 106 #[.func (.func 143) #[] #[.pointer (some ⟨w.heap.size, 0, none⟩)]] (w.alloc (.cells #[.map (some b)] 162)) fun e w' =>
      ∃ (v : Value) (ss : List (List UInt8)), e = .returned v ∧ ss.Perm (strKeys D0) ∧ w'.ownsRow (w.heap.size + 1) 9 1 v ss.length ((ss.mergeSort (fun x y => decide (x ≤ y))).map encStr) ∧ Below (w.heap.size + 1) (w.alloc (.cells #[.map (some b)] 162)) w' := by
  have hlt := hown.lt
  have gives : SeqGives Fence.wide 2 Tryz.prog 143 #[.pointer (some ⟨w.heap.size, 0, none⟩)] encStr (fun ss => ss.Perm (strKeys D0)) (Maps.size D0) (w.alloc (.cells #[.map (some b)] 162)) := by
    refine AnyZ.keys_gives (ρ := keysRenC) (R := R) { keysLaysC with } Fence.wide _ trivial rfl (by omega) w.heap.size b nn D0 _ (by simp) (by simp) ?_
    obtain ⟨es, clock, h1, h2, h3, h4⟩ := hown
    exact ⟨es, clock, (Below.heap_alloc _ _ b hlt).trans h1, h2, h3, h4⟩
  have key := (callsIn_wide (n := 5)).1 (AnyZ.sorted_in sortedLays Fence.wide 5 trivial trivial trivial trivial rfl (by omega) (lays_sort _) (enters_of Tryz.func142 (by kernel_rfl) rfl) 143 #[.pointer (some ⟨w.heap.size, 0, none⟩)] trivial (enters_of Tryz.func143 (by kernel_rfl) rfl) _ _ (by unfold maxLen; omega) (by omega) _ gives)
  refine key.mono ?_
  rintro e w' ⟨v, ss, he, hp, hrow, _, hb⟩
  rw [World.size_alloc] at hrow hb
  exact ⟨v, ss, he, hp, hrow, hb⟩
end Go.Proofs.YtdmejcfnolhplaaGreat.Clash
/-
  The contract of the program's Make. Condition: terms that may be, of a number, of sets and of names that may be walked.
-/
namespace Go.Proofs.YtdmejcfnolhplaaGreat.Clash
open Go Go.RowKit Go.Lib Go.Proofs.YtdmejcfnolhplaaGreat.Span Go.Proofs.YtdmejcfnolhplaaGreat.Need Go.Proofs.YtdmejcfnolhplaaGreat.Grow Go.Proofs.YtdmejcfnolhplaaGreat.Term
open Go.Proofs.YtdmejcfnolhplaaGreat.Mani (TxOn tcs tcs_at own_texts bytesOf)
set_option linter.unusedVariables false
theorem texts_back (L : List ByteArray) : (L.map bytesOf).map encStr = tcs L := by
  rw [List.map_map]
  unfold tcs
  refine List.map_congr_left fun x _ => ?_
  simp [encStr, bytesOf]
end Go.Proofs.YtdmejcfnolhplaaGreat.Clash
/-
  The contract of the program's Make of clashes once more, with the rows' types told. Condition: terms that may be, of a number, of sets and of names that may be walked.
-/
namespace Go.Proofs.YtdmejcfnolhplaaGreat.Fact
open Go Go.RowKit Go.Lib Go.Proofs.YtdmejcfnolhplaaGreat.Span Go.Proofs.YtdmejcfnolhplaaGreat.Need Go.Proofs.YtdmejcfnolhplaaGreat.Grow Go.Proofs.YtdmejcfnolhplaaGreat.Term Go.Proofs.YtdmejcfnolhplaaGreat.Clash
open Go.Proofs.YtdmejcfnolhplaaGreat.Mani (TxOn tcs tcs_at own_texts bytesOf)
set_option linter.unusedVariables false
set_option maxHeartbeats 8000000 in
set_option maxRecDepth 100000 in
theorem makeR_any (l : List Tm) (A : Option Addr) (n c : Nat) (w : World) (h : TmOn w A n l) (hl : FineC l) (hok : ∀ t ∈ l, okT t = true) :
    Calls Tryz.prog 74 #[.slice A n c] w (MakesR w (makeC l)) := by
  unfold MakesR
  obtain ⟨i0, hi0, hz0, hz1, hz2⟩ := info_parts info_term
  have hlen := h.len
  have hn : n ≤ 1000 := by rw [← hlen]; exact hl.1
  have HMt := hide (meetC_any l A n c w h hl hok)
  unfold MeetsC at HMt
  obtain ⟨hPr, hPo⟩ := puts_ok hok
  have hPl : (putsC l).length ≤ n := by
    have := puts_length l l.length (Nat.le_refl _)
    rw [List.take_length] at this
    omega
  have hPz : ∀ x ∈ putsC l, x.set.length ≤ 1000000001 ∧ x.name.size ≤ 1000000000 := fun x hx => by
    have h1 := puts_size hok l.length (Nat.le_refl _) x (by rw [List.take_length]; exact hx)
    have h2 := sumC_take l l.length
    have h3 := hl.2.1
    have h4 := Label.fit_small x.name (okT_fit (hPo x hx))
    exact ⟨by omega, by omega⟩
  obtain ⟨F, hF⟩ : ∃ F, F = makeC l := ⟨_, rfl⟩
  rw [← hF]
  have HF : Hid (leftC (putsC l) = F) := hide (by rw [hF, make_left])
  clear hF hok hl h hlen
  generalize putsC l = P at *
  have HPr := hide hPr
  have HPz := hide hPz
  obtain ⟨k, hk⟩ : ∃ k, P.length = k := ⟨_, rfl⟩
  rw [hk] at hPl
  have Hlen := hide hk
  clear hPr hPz hPo hk
  go_enter Tryz.func74, Tryz.ntmps74
  go_wp2_with (first
    | (go_at_call 105
       refine HMt.out.mono ?_
       rintro e w1 ⟨rfl, hM, hb1⟩
       obtain ⟨D, hD1, hD2, hD3⟩ := hM.sorted HPr.out
       have HK := hide (keysC_any w.heap.size w1)
       have HS := hide (sortedC_any w.heap.size n D MapV.valElem w1 hD1 (by omega))
       have HD3 := hide hD3
       clear hD1 hD2 hD3)
    | (go_at_call 107
       refine HK.out.mono ?_
       rintro e w2 ⟨rfl, rfl⟩)
    | (go_at_call 106
       refine HS.out.mono ?_
       rintro e V ⟨v, ss, rfl, hp, hrow, hb2⟩
       rw [HD3.out ss hp, texts_back] at hrow
       have hss : ss.length = k := by
         have h1 := hrow.1
         rw [Mani.tcs_length, List.length_map, Hlen.out] at h1
         omega
       rw [hss] at hrow
       obtain ⟨A9, c9, rfl, hc9, hT⟩ := own_texts hrow))
  have hb3 : Below w1.heap.size w1 V := (alloc_b _).trans (hb2.mono (by omega))
  have hb : Below w.heap.size w V := hb1.trans (hb3.mono hb1.size)
  have hMV := hM.below hb3
  have hbs := hb.size
  have hwb : w.heap.size < V.heap.size := hMV.lt
  clear hM hb1 hb2 hb3 hrow HK HS HD3 HMt hp hss
  go_loopw [4, 15] (fun u v wz => ∃ (j m : Nat) (rs : List Rt) (out : List Tm), j ≤ k ∧ m ≤ j ∧ v = .int .i64 (j : Int) ∧ TmsR wz V.heap.size u m rs out ∧ Hid ((leftC (P.drop j)).map (fun q => out ++ q) = F) ∧ Below V.heap.size V wz) (fun _ v _ => k - (RowKit.intOf v).toNat)
  case atStart => exact ⟨0, 0, [], [], by omega, by omega, rfl, TmsR.nil_ _ _, hide (by rw [List.drop_zero, HF.out]; cases F <;> simp), Below.refl _ _⟩
  case round =>
    obtain ⟨j, m, rs, out, hj, hm, rfl, hN, hL, hbz⟩ := hrel
    obtain ⟨Ax, cx, rfl, hcx, hx0⟩ := hN.told
    have hbzs := hbz.size
    by_cases hjk : j < k
    · obtain ⟨ad, z, rfl, hbl, hzj, hcz⟩ := tcs_at (hT.on hbz) hjk
      rw [List.getElem?_map, Option.map_eq_some_iff] at hzj
      obtain ⟨x, hx, rfl⟩ := hzj
      obtain ⟨hz1', hz2'⟩ := HPz.out x (List.mem_of_getElem? hx)
      have hst := left_step hL.out hx
      have S1 := hide hst.1
      have S2 := hide hst.2.1
      have S3 := hide hst.2.2
      obtain ⟨A', n', c', hI, hlk⟩ := MapC.look (hMV.below hbz) (by unfold maxLen; omega) (find_at HPr.out hx)
      obtain ⟨V5, hV5⟩ : ∃ V5, V5 = wr.alloc (.cells #[.string x.name, .slice A' n' c', .bool x.none] 77) := ⟨_, rfl⟩
      have hbV : Below wr.heap.size wr V5 := by rw [hV5]; exact alloc_b _
      have b8 : Blk V5 wr.heap.size 77 #[.string x.name, .slice A' n' c', .bool x.none] := by rw [hV5]; exact Blk.new _ _ _
      have hI5 : InS V5 0 A' n' x.set := hI.below hbV
      have hN5 := hN.below hbV
      have hb5 : Below V.heap.size V V5 := hbz.trans (hbV.mono hbzs)
      have hb5s := hb5.size
      have hsl := hI.1.1
      have HX : Hid (∀ wx, Below V5.heap.size V5 wx → wx.cell? ⟨wr.heap.size, 0, none⟩ = some (.string x.name) ∧ wx.cell? ⟨wr.heap.size, 1, none⟩ = some (.slice A' n' c') ∧ wx.cell? ⟨wr.heap.size, 2, none⟩ = some (.bool x.none)) := hide (fun wx hbx => ⟨((b8.below hbx b8.lt).cell 0).trans rfl, ((b8.below hbx b8.lt).cell 1).trans rfl, ((b8.below hbx b8.lt).cell 2).trans rfl⟩)
      have HEm : Hid (∀ wx, Below V5.heap.size V5 wx → Calls Tryz.prog 108 #[.agg #[.string x.name, .slice A' n' c', .bool x.none]] wx fun e w' => e = .returned (.bool (emptyT x)) ∧ Below wx.heap.size wx w') := hide (fun wx hbx => by
        have := emptyT_any x.name x.set x.none A' n' c' wx (hI5.below hbx).1
        unfold Tells at this
        exact this)
      have HFu : Hid (∀ wx, Below V5.heap.size V5 wx → Calls Tryz.prog 109 #[.agg #[.string x.name, .slice A' n' c', .bool x.none]] wx fun e w' => e = .returned (.bool (fullT x)) ∧ Below wx.heap.size wx w') := hide (fun wx hbx => by
        have := fullT_any x.name x.set x.none A' n' c' wx (hI5.below hbx).1 (by omega)
        unfold Tells at this
        exact this)
      obtain ⟨c1, c2, c3⟩ := HX.out _ (Below.refl _ _)
      clear hst hx hL HF hsl hI hbV b8 hN
      generalize emptyT x = em at *
      generalize fullT x = fu at *
      obtain ⟨xn, xs, xz⟩ := x
      simp only [] at c1 c2 c3 HX HEm HFu hI5 hlk hV5 hcz
      go_upto_region 7 with fail
      try rw [← hV5]
      clear hV5 hlk hcz
      cases em with
      | true =>
        have e : Hid (F = none) := hide (S1.out rfl)
        clear S1 S2 S3
        go_wp2_with (first
          | (go_at_call 108
             refine (HEm.out _ (Below.refl _ _)).mono ?_
             rintro e w1 ⟨rfl, hb1⟩))
        go_ret2
        exact ⟨none, 0, 0, by rw [e.out]; rfl, by rw [e.out]; exact TmR.nil _ _ _, hb.trans ((hb5.trans (hb1.mono hb5s)).mono hbs)⟩
      | false =>
      cases fu with
      | true =>
        have e := hide (S2.out rfl rfl)
        clear S1 S2 S3
        go_wp2_with (first
          | (go_at_call 109
             refine (HFu.out _ hb1).mono ?_
             rintro e w2 ⟨rfl, hb2x⟩
             have N2 := N1.below hb2x
             have hb2 := hb1.trans (hb2x.mono hb1.size))
          | (go_at_call 108
             refine (HEm.out _ (Below.refl _ _)).mono ?_
             rintro e w1 ⟨rfl, hb1⟩
             have N1 := hN5.below hb1
             obtain ⟨d1, d2, d3⟩ := HX.out _ hb1))
        go_roundw
        case rel => exact ⟨j + 1, m, _, _, by omega, by omega, by go_num, N2, e, hb5.trans (hb2.mono hb5s)⟩
        case measure => simp [RowKit.intOf]; omega
      | false =>
        have e := hide (S3.out rfl rfl)
        clear S1 S2 S3
        go_upto_region 10 with (first
          | (go_at_call 109
             refine (HFu.out _ hb1).mono ?_
             rintro e w2 ⟨rfl, hb2x⟩
             have N2 := N1.below hb2x
             have hb2 := hb1.trans (hb2x.mono hb1.size)
             have hs2 := hb2.size
             obtain ⟨g1, g2, g3⟩ := HX.out _ hb2)
          | (go_at_call 108
             refine (HEm.out _ (Below.refl _ _)).mono ?_
             rintro e w1 ⟨rfl, hb1⟩
             have N1 := hN5.below hb1
             obtain ⟨d1, d2, d3⟩ := HX.out _ hb1))
        have hI2 := hI5.below hb2
        have hb2w : Below V.heap.size V w2 := hb5.trans (hb2.mono hb5s)
        have hb2s := hb2w.size
        go_wp2_with (first
          | (at_builtin
             refine wpList_append_any _ rfl (.tmp 27) (.tmp 29) _ rfl V.heap.size 77 i0 _ 3 48 Tryz.underlying41 hi0 hz0 hz1 hz2 rfl (by omega) _ m (tms rs) rfl
               (own_below N2.1 (alloc_b _)) _ _ 1 _ _ rfl (reads_term _ xn A' n' c' xz _ _ (by simp)) (one_term _ _ _ _ _) (by unfold maxLen; omega) (by omega) (by simp; omega) ?_
             intro v3 w3 hown3 hg3 hat3
             have hA3 := (alloc_b (w := w2) (.cells #[.string xn, .slice A' n' c', .bool xz] 77))
             have N3 := (N2.below hA3).cat (AllT.one (z := xz) (hI2.below hA3)) hown3 hg3
             have h3 : Below V.heap.size V w3 := (hb2w.trans (hA3.mono hb2s)).grown hg3 (by simp; omega) (fun k hk => (N2.1.lt k hk).1)))
        go_roundw
        case rel => exact ⟨j + 1, m + 1, _, _, by omega, by omega, by go_num, N3, e, h3⟩
        case measure => simp [RowKit.intOf]; omega
    · have e : Hid (F = some out) := hide (by rw [← hL.out, List.drop_of_length_le (by have := Hlen.out; omega)]; simp [leftC])
      clear hL HF hT hMV
      go_wp2
      go_ret2
      exact ⟨Ax, m, cx, by rw [e.out]; rfl, by rw [e.out]; exact hx0, hb.trans (hbz.mono hbs)⟩
end Go.Proofs.YtdmejcfnolhplaaGreat.Fact
