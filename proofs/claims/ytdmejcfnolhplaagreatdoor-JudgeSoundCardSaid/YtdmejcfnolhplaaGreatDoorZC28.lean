/-
  Some texts of this claim, one behind the other: PickCheck. What each proves, and its condition, stands at its head.
-/
import Derived.Test.YtdmejcfnolhplaaGreatDoorZC26
import Derived.Test.YtdmejcfnolhplaaGreatDoorZC13
import Derived.Test.YtdmejcfnolhplaaGreatDoorZC11
/-
  The contract of the program's Check: which picks may be. Condition: the program's own table holds what its text lays in it; names as long as a text may be.
-/
namespace Go.Proofs.YtdmejcfnolhplaaGreatDoor.Pick
open Go Go.RowKit Go.Lib Go.Proofs.YtdmejcfnolhplaaGreatDoor.Need
open Go.Proofs.YtdmejcfnolhplaaGreatDoor.Label (runes fitL fit_any)
open Go.Proofs.YtdmejcfnolhplaaGreatDoor.Ver (Units parts_zu pzA pzB pzC isFit)
set_option linter.unusedVariables false
set_option maxHeartbeats 4000000 in
theorem checkP_any (l : List Pk) (A : Option Addr) (n c : Nat) (w : World) (h : PkOn w A n l) (hl : ∀ q ∈ l, q.1.size ≤ 9223372036854775807) (hn : n ≤ 140737488355328) (hT : Units w) :
    Calls Tryz.prog 62 #[.slice A n c] w fun e w' => e = .returned (.bool (okP l)) ∧ Below w.heap.size w w' := by
  have hlen := h.len
  have Hd := hide (fun a i q => @okQ_drop l a i q)
  obtain ⟨F, hF⟩ : ∃ F, F = okQ ByteArray.empty l := ⟨_, rfl⟩
  have Hl : Hid (okP l = F) := hide hF.symm
  have HF := hide hF
  have Hlen := hide hlen
  clear hF hlen
  generalize okP l = L at *
  go_enter Tryz.func62, Tryz.ntmps62
  go_wp2
  go_loopw [3, 10] (fun u v wr => ∃ (i : Nat) (a : ByteArray), i ≤ n ∧ u = .string a ∧ v = .int .i64 (i : Int) ∧ Hid (F = okQ a (l.drop i)) ∧ Below w.heap.size w wr) (fun _ v _ => n - (RowKit.intOf v).toNat)
  case atStart => exact ⟨0, ByteArray.empty, by omega, rfl, rfl, HF, Below.refl _ _⟩
  case round =>
    obtain ⟨i, a, hi, rfl, rfl, hf, hb⟩ := hrel
    by_cases hlt : i < n
    · obtain ⟨ad, q, rfl, hbl, hx, c1, c2⟩ := PkIn.at_ (PkIn.below h hb) hlt
      have hq1 := hl q (List.mem_of_getElem? hx)
      have hd := hf.out.trans (Hd.out a i q hx)
      obtain ⟨nm, v⟩ := q
      simp only [] at c1 c2 hq1 hd
      have hbs := hb.size
      have HP := hide (fun (wx : World) (hbx : Below wr.heap.size wr wx) => parts_zu v wx (hT.below (hb.trans (hbx.mono hbs))))
      have HW := hide (fun (wx : World) => fit_any nm wx hq1)
      have hv : isFit v = verOk v := rfl
      rw [hv] at HP
      have htri := triP nm a
      have Hd2 := hide hd
      clear hx hf hq1 hd Hd h hl hv
      generalize fitL (runes nm 0) = y at *
      generalize verOk v = z at *
      generalize pzA v = pa at *
      generalize pzB v = pb at *
      generalize pzC v = pc at *
      cases z
      · have e : Hid (F = false) := hide (by rw [Hd2.out]; simp)
        clear Hd2 htri
        go_wp2_with (go_at_call 92
                     refine (HP.out _ (alloc_b _ _)).mono ?_
                     rintro e w1 ⟨rfl, hb1⟩
                     have hbx := (alloc_b wr _).trans (hb1.mono (by simp)))
        go_ret
        exact ⟨by rw [Hl.out, e.out]; rfl, hb.trans ((hbx.alloc hbx.size _).mono hbs)⟩
      · rcases htri with ⟨f1, f2, f3⟩ | ⟨f1, f2, f3⟩ | ⟨f1, f2, f3⟩
        · have e : Hid (F = false) := hide (by rw [Hd2.out, f2]; simp)
          clear Hd2 f2
          go_wp2_with (go_at_call 92
                       refine (HP.out _ (alloc_b _ _)).mono ?_
                       rintro e w1 ⟨rfl, hb1⟩
                       have hbx := (alloc_b wr (.cells #[.string nm, .int .i64 v] 50)).trans (hb1.mono (by simp))
                       have hblk := (Blk.new wr 50 #[.string nm, .int .i64 v]).below hb1 (by simp)
                       have k0 : ∀ o, (w1.alloc o).cell? ⟨wr.heap.size, 0, none⟩ = some (.string nm) := fun o => ((hblk.alloc o).cell 0).trans rfl)
          go_ret
          exact ⟨by rw [Hl.out, e.out]; rfl, hb.trans ((hbx.alloc hbx.size _).mono hbs)⟩
        · have e : Hid (F = false) := hide (by rw [Hd2.out, f2]; simp)
          clear Hd2 f2
          go_wp2_with (go_at_call 92
                       refine (HP.out _ (alloc_b _ _)).mono ?_
                       rintro e w1 ⟨rfl, hb1⟩
                       have hbx := (alloc_b wr (.cells #[.string nm, .int .i64 v] 50)).trans (hb1.mono (by simp))
                       have hblk := (Blk.new wr 50 #[.string nm, .int .i64 v]).below hb1 (by simp)
                       have k0 : ∀ o, (w1.alloc o).cell? ⟨wr.heap.size, 0, none⟩ = some (.string nm) := fun o => ((hblk.alloc o).cell 0).trans rfl)
          go_ret
          exact ⟨by rw [Hl.out, e.out]; rfl, hb.trans ((hbx.alloc hbx.size _).mono hbs)⟩
        · cases y
          · have e : Hid (F = false) := hide (by rw [Hd2.out]; simp)
            clear Hd2 f2
            go_wp2_with (first
              | (go_at_call 92
                 refine (HP.out _ (alloc_b _ _)).mono ?_
                 rintro e w1 ⟨rfl, hb1⟩
                 have hbx := (alloc_b wr (.cells #[.string nm, .int .i64 v] 50)).trans (hb1.mono (by simp))
                 have hblk := (Blk.new wr 50 #[.string nm, .int .i64 v]).below hb1 (by simp)
                 have k0 : ∀ o, (w1.alloc o).cell? ⟨wr.heap.size, 0, none⟩ = some (.string nm) := fun o => ((hblk.alloc o).cell 0).trans rfl)
              | (go_at_call 22
                 refine (HW.out _).mono ?_
                 rintro e w2 ⟨rfl, hb2⟩
                 have hby := (hbx.alloc hbx.size _).trans (hb2.mono (by have := hbx.size; simp; omega))))
            go_ret
            exact ⟨by rw [Hl.out, e.out]; rfl, hb.trans (hby.mono hbs)⟩
          · have e : Hid (F = okQ nm (l.drop (i + 1))) := hide (by rw [Hd2.out, f2]; rfl)
            clear Hd2 f2
            go_wp2_with (first
              | (go_at_call 92
                 refine (HP.out _ (alloc_b _ _)).mono ?_
                 rintro e w1 ⟨rfl, hb1⟩
                 have hbx := (alloc_b wr (.cells #[.string nm, .int .i64 v] 50)).trans (hb1.mono (by simp))
                 have hblk := (Blk.new wr 50 #[.string nm, .int .i64 v]).below hb1 (by simp)
                 have k0 : ∀ o, (w1.alloc o).cell? ⟨wr.heap.size, 0, none⟩ = some (.string nm) := fun o => ((hblk.alloc o).cell 0).trans rfl)
              | (go_at_call 22
                 refine (HW.out _).mono ?_
                 rintro e w2 ⟨rfl, hb2⟩
                 have hby := (hbx.alloc hbx.size _).trans (hb2.mono (by have := hbx.size; simp; omega))
                 have k2 : w2.cell? ⟨wr.heap.size, 0, none⟩ = some (.string nm) := (((hblk.alloc (.cells #[.int .i64 pa, .int .i64 pb, .int .i64 pc] 156)).below hb2 (by have := hblk.lt; simp; omega)).cell 0).trans rfl))
            have hbz := hb.trans (hby.mono hbs)
            go_roundw
            case rel => exact ⟨i + 1, nm, by omega, rfl, by go_num, e, hbz⟩
            case measure => simp [RowKit.intOf]; omega
    · have e : Hid (F = true) := hide (by rw [hf.out, List.drop_of_length_le (by have := Hlen.out; omega)]; rfl)
      clear hf
      go_wp2
      go_ret
      exact ⟨by rw [Hl.out, e.out]; rfl, hb⟩
end Go.Proofs.YtdmejcfnolhplaaGreatDoor.Pick
