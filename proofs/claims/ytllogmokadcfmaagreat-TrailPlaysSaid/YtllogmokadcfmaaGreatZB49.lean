/-
  Some texts of this claim, one behind the other: TrailPut, TrailDerive. What each proves, and its condition, stands at its head.
-/
import Derived.Test.YtllogmokadcfmaaGreatZB48
import Derived.Carry
import Derived.Test.YtllogmokadcfmaaGreatZB29
/-
  The contract of the program's put: an entry behind the others, with what is known by it, and its number in the map. Condition: names of at most 1,000,000,000 bytes, at most 1000 entries, whose sets may be and are short.
-/
namespace Go.Proofs.YtllogmokadcfmaaGreat.Trail
open Go Go.RowKit Go.Lib Go.Proofs.YtllogmokadcfmaaGreat.Span Go.Proofs.YtllogmokadcfmaaGreat.Need Go.Proofs.YtllogmokadcfmaaGreat.Mani Go.Proofs.YtllogmokadcfmaaGreat.Grow Go.Proofs.YtllogmokadcfmaaGreat.Term
open Go.Proofs.YtllogmokadcfmaaGreat.MapV
set_option linter.unusedVariables false
theorem info_entry : (Tryz.prog.info? 73).map (fun i => (i.zero, i.size, i.bytes)) = some (some (.agg #[.string ByteArray.empty, .slice none 0 0, .bool false, .int .i64 0, .int .i64 0, .int .i64 0, .string ByteArray.empty, .slice none 0 0, .bool false]), 9, 120) := by kernel_rfl
section
variable {w w' w1 : World} {B n n2 c c2 : Nat} {v v1 : Value} {l : List Ent} {bs : List Nat} {A A2 : Option Addr} {rs : List Rn}
theorem keeps_own {T : TypeId} {s m : Nat} {xs : List Value} (ho : w.ownsRow B T s v m xs) (hT : TrS T) (hg : w.grownBy w' v.ownBlock) (hB : B ≤ w.heap.size) : Keeps TrS B w w' := by
  rcases ho.2 with ⟨rfl, _⟩ | ⟨g, cap, cur, rfl, hBg, hh, _⟩
  · exact Keeps.of_below (below_none hg) hB
  · exact keeps_cells hg hBg hh hT
theorem told_kept {b m k : Nat} {T : TypeId} {s : Nat} {xs : List Value} {f : ByteArray → Option Value} (hT : OwnTold w b m f) (ho : w.ownsRow B T s v k xs) (hg : w.grownBy w' v.ownBlock) : OwnTold w' b m f := hT.kept hg (fun e => by
  rcases ho.2 with ⟨rfl, _⟩ | ⟨g, cap, cur, rfl, hBg, hh, _⟩
  · cases e
  · injection e with e
    exact told_ne hT (show Blk w g T cur from hh) e)
theorem MapN.own {T : TypeId} {s k : Nat} {xs : List Value} {mo : Option Nat} (h : MapN w B mo l) (ho : w.ownsRow B T s v k xs) (hg : w.grownBy w' v.ownBlock) : MapN w' B mo l := h.imp id fun ⟨b, n, h1, h2, h3, h4⟩ => ⟨b, n, h1, h2, h3, told_kept h4 ho hg⟩
theorem RowN.cat {t : Tm} {lv : Nat} {cz : Int} (ho : w.ownsRow B 73 9 v l.length (rns rs)) (hall : AllN w rs l) (hA : InS w 0 A n t.set) (hc : n ≤ c) (hA2 : InS w 0 A2 n2 (meetT (knowL l t.name) t).set) (hc2 : n2 ≤ c2)
    (h1 : w1.ownsRow B 73 9 v1 (l.length + 1) (rns rs ++ rns [⟨t.name, .slice A n c, t.none, (lv : Int), cz, (lastNo l t.name : Int), .slice A2 n2 c2, (meetT (knowL l t.name) t).none⟩])) (hg : w.grownBy w1 v.ownBlock) : RowN w1 B v1 (l ++ [⟨t, lv, cz⟩]) := by
  refine ⟨_, ?_, (hall.put hA hc hA2 hc2).mono fun _ _ _ hs => insFar hs (farT_own ho (by decide)) hg⟩
  rw [rns_append, List.length_append, List.length_singleton]
  exact h1
theorem told_put {b m : Nat} (hT : OwnTold w b m (lastV l)) (hm : m ≤ cntN l) (hl : l.length ≤ 1000) (e : Ent) (hs : e.term.name.size ≤ maxLen) :
    ∃ w' m', (Instr.mapUpdate 59 (.map (some b)) (.string e.term.name) (.int .i64 ((l.length : Int) + 1))).run Tryz.prog w = .ok () w' ∧ m' ≤ cntN (l ++ [e]) ∧ OwnTold w' b m' (lastV (l ++ [e])) ∧ w.mapTurned w' b := by
  have hcl := cnt_le l
  have hcs := cnt_snoc l e
  have hlt : m < maxLen := by unfold maxLen; omega
  by_cases h0 : lastNo l e.term.name = 0
  · rw [if_pos h0] at hcs
    obtain ⟨w', r1, r2, r3⟩ := hT.put Tryz.underlying59 hlt hs (.int .i64 ((l.length : Int) + 1))
    exact ⟨w', m + 1, r1, by omega, r2.congr fun x => (lastV_put l e x).symm, r3⟩
  · rw [if_neg h0] at hcs
    obtain ⟨w', r1, r2, r3⟩ := hT.put_old Tryz.underlying59 hlt hs (.int .i64 ((l.length : Int) + 1)) (lastV_some.2 h0)
    exact ⟨w', m, r1, by omega, r2.congr fun x => (lastV_put l e x).symm, r3⟩
abbrev zeroE : Array Value := #[.string ⟨#[]⟩, .slice none 0 0, .bool false, .int .i64 0, .int .i64 0, .int .i64 0, .string ⟨#[]⟩, .slice none 0 0, .bool false]
theorem puts9 {g : Nat} {u0 u1 u2 u3 u4 u5 u6 u7 u8 : Value} (h : Blk w g 73 zeroE) :
    Blk (((((((((w.setCell ⟨g, 0, none⟩ u0).setCell ⟨g, 1, none⟩ u1).setCell ⟨g, 2, none⟩ u2).setCell ⟨g, 3, none⟩ u3).setCell ⟨g, 4, none⟩ u4).setCell ⟨g, 5, none⟩ u5).setCell ⟨g, 6, none⟩ u6).setCell ⟨g, 7, none⟩ u7).setCell ⟨g, 8, none⟩ u8) g 73 #[u0, u1, u2, u3, u4, u5, u6, u7, u8] ∧
      w.grownBy (((((((((w.setCell ⟨g, 0, none⟩ u0).setCell ⟨g, 1, none⟩ u1).setCell ⟨g, 2, none⟩ u2).setCell ⟨g, 3, none⟩ u3).setCell ⟨g, 4, none⟩ u4).setCell ⟨g, 5, none⟩ u5).setCell ⟨g, 6, none⟩ u6).setCell ⟨g, 7, none⟩ u7).setCell ⟨g, 8, none⟩ u8) (some g) :=
  by
  have h9 := ((((((((h.set_ 0 u0).set_ 1 u1).set_ 2 u2).set_ 3 u3).set_ 4 u4).set_ 5 u5).set_ 6 u6).set_ 7 u7).set_ 8 u8
  have e : ((((((((zeroE.setIfInBounds 0 u0).setIfInBounds 1 u1).setIfInBounds 2 u2).setIfInBounds 3 u3).setIfInBounds 4 u4).setIfInBounds 5 u5).setIfInBounds 6 u6).setIfInBounds 7 u7).setIfInBounds 8 u8 = #[u0, u1, u2, u3, u4, u5, u6, u7, u8] := by simp [zeroE]
  rw [e] at h9
  exact ⟨h9, only_setCell (only_setCell (only_setCell (only_setCell (only_setCell (only_setCell (only_setCell (only_setCell (only_setCell (only_self w g) (.inl rfl) _) (.inl rfl) _) (.inl rfl) _) (.inl rfl) _) (.inl rfl) _) (.inl rfl) _) (.inl rfl) _) (.inl rfl) _) (.inl rfl) _⟩
theorem reads_rn (w : World) (nm : ByteArray) (x y : Value) (z z2 : Bool) (lv cz no : Int) (T' : TypeId) (g : Nat) (hg : g = w.heap.size) :
    Reads (w.alloc (.cells #[.string nm, x, .bool z, .int .i64 lv, .int .i64 cz, .int .i64 no, .string nm, y, .bool z2] T')) (w.heap.size + 1) 9 (some ⟨g, 0, none⟩) 1 (rns [⟨nm, x, z, lv, cz, no, y, z2⟩]) := by
  subst hg
  have h := Reads.newL w T' #[.string nm, x, .bool z, .int .i64 lv, .int .i64 cz, .int .i64 no, .string nm, y, .bool z2]
  exact ⟨rfl, fun _ => h.2 (by simp)⟩
theorem put_facts {W9 X w5 : World} {g0 b0 ce : Nat} {vb : Value} {mo : Option Nat} {Ae : Option Addr} {cs : Array Value} (hbx : Below W9.heap.size W9 X) (ho : W9.ownsRow B 73 9 (.slice Ae l.length ce) l.length (rns rs)) (h1 : Blk W9 g0 61 #[.slice Ae l.length ce, vb, .map mo]) (bt4 : Blk W9 b0 38 cs) (h3 : RowB W9 B vb bs) (h4 : MapN W9 B mo l) (hg5 : X.grownBy w5 (Value.slice Ae l.length ce).ownBlock) (hB : B ≤ W9.heap.size) :
    Blk w5 g0 61 #[.slice Ae l.length ce, vb, .map mo] ∧ Blk w5 b0 38 cs ∧ RowB w5 B vb bs ∧ MapN w5 B mo l ∧ Keeps TrS B W9 w5 := by
  have hox := own_below ho hbx
  exact ⟨(h1.below hbx h1.lt).grown hg5 (farT_own hox (by decide) _ _ _ (h1.below hbx h1.lt)), (bt4.below hbx bt4.lt).grown hg5 (farT_own hox (by decide) _ _ _ (bt4.below hbx bt4.lt)), (h3.below hbx).far (farT_own hox (by decide)) hg5, (h4.below hbx).own hox hg5,
    (Keeps.of_below (TS := TrS) hbx hB).trans (keeps_own hox (.inr (.inl rfl)) hg5 (Nat.le_trans hB hbx.size))⟩
theorem eq_map0 (w : World) : (binOp .eql 59 (.map none) (.map none)).run Tryz.prog w = .ok (.bool true) w := by
  have h : ∀ d : Nat, (Op.equalIn (d + 1) 59 (.map none) (.map none)).run Tryz.prog w = .ok true w := fun d => by simp [Op.equalIn, run_underlying Tryz.underlying59]
  simp only [binOp]
  simp [Op.equal, Op.maxDepth, h 9999]
theorem eq_map1 (b : Nat) (w : World) : (binOp .eql 59 (.map (some b)) (.map none)).run Tryz.prog w = .ok (.bool false) w := by
  have h : ∀ d : Nat, (Op.equalIn (d + 1) 59 (.map (some b)) (.map none)).run Tryz.prog w = .ok false w := fun d => by simp [Op.equalIn, run_underlying Tryz.underlying59]
  simp only [binOp]
  simp [Op.equal, Op.maxDepth, h 9999]
theorem TrQ.grow (h : TrQ w B v l bs) : B ≤ w.heap.size := by
  obtain ⟨g, ve, vb, mo, e, hB, h1, _⟩ := h
  have := h1.lt
  omega
set_option maxHeartbeats 8000000 in
set_option maxRecDepth 100000 in
theorem putTr_any (t : Tm) (A : Option Addr) (n c : Nat) (cz : Int) (h : TrQ w B v l bs) (ht : SpOn w A n t.set) (hn : n ≤ 1000000) (hnm : t.name.size ≤ 1000000000) (hset : isSet (-1) t.set = true) (hl : l.length ≤ 1000) :
    Calls Tryz.prog 35 #[v, .agg #[.string t.name, .slice A n c, .bool t.none], .int .i64 cz] w fun e w' => e = .returned (.tuple #[]) ∧ TrQ w' B v (l ++ [⟨t, bs.length, cz⟩]) bs ∧ Keeps TrS B w w' := by
  have hBw := h.grow
  have hk9 : knowL (l.take (lastNo l t.name)) t.name = knowL l t.name := (know_all l t.name).symm
  have HC := hide (fun (wx : World) (hb : Below w.heap.size w wx) => copiedTr_any t.name t.set t.none A n c wx (SpOn.on ht hb) hnm hn)
  have HF := hide (fun (wx : World) (hx : TrQ wx B v l bs) => findTr_q t.name hx hnm)
  have HLv := hide (fun (wx : World) (hx : TrQ wx B v l bs) => levelTr_q hx)
  have HKn := hide (fun (wx : World) (hx : TrQ wx B v l bs) => by
    have := knownTr_q t.name hx (isNo_all l t.name) hl
    rw [hk9] at this
    exact this)
  have HM := hide (fun (wx : World) (A1 A3 : Option Addr) (n1 c1 n3 c3 : Nat) (h1 : SpOn wx A1 n1 (knowL l t.name).set) (h3 : SpOn wx A3 n3 t.set) => meetT_any (knowL l t.name).name t.name (knowL l t.name).set t.set (knowL l t.name).none t.none A1 A3 n1 c1 n3 c3 wx h1 h3 (by rw [know_name]; exact hnm) (know_set _ _) hset)
  unfold TellsC at HC HKn
  unfold MakesT at HM
  have eK : meetT ⟨(knowL l t.name).name, (knowL l t.name).set, (knowL l t.name).none⟩ ⟨t.name, t.set, t.none⟩ = meetT (knowL l t.name) t := rfl
  rw [eK] at HM
  have hMn : (meetT (knowL l t.name) t).name = t.name := by rw [meet_same (by rw [know_name])]; exact know_name _ _
  have hs : t.name.size ≤ maxLen := by unfold maxLen; omega
  have HS := hide hs
  obtain ⟨tn, ts, tz⟩ := t
  simp only [] at HC HF HKn HM hMn HS ht ⊢
  have Hl := hide hl
  have HCat := hide (fun (wx wy : World) (vx vy : Value) (rs : List Rn) (A1 A3 : Option Addr) (n1 c1 n3 c3 : Nat) (ho : wx.ownsRow B 73 9 vx l.length (rns rs)) (hall : AllN wx rs l) (hA : InS wx 0 A1 n1 ts) (hc : n1 ≤ c1) (hA2 : InS wx 0 A3 n3 (meetT (knowL l tn) ⟨tn, ts, tz⟩).set) (hc2 : n3 ≤ c3)
    (h1 : wy.ownsRow B 73 9 vy (l.length + 1) (rns rs ++ rns [⟨tn, .slice A1 n1 c1, tz, (bs.length : Int), cz, (lastNo l tn : Int), .slice A3 n3 c3, (meetT (knowL l tn) ⟨tn, ts, tz⟩).none⟩])) (hg : wx.grownBy wy vx.ownBlock) => RowN.cat (t := ⟨tn, ts, tz⟩) (lv := bs.length) (cz := cz) ho hall hA hc hA2 hc2 h1 hg)
  have HPut := hide (fun (wx : World) (b m : Nat) (hT : OwnTold wx b m (lastV l)) (hm : m ≤ cntN l) => told_put hT hm hl ⟨⟨tn, ts, tz⟩, bs.length, cz⟩ hs)
  simp only [] at HPut
  have HMn := hide hMn
  clear hMn
  generalize meetT (knowL l tn) ⟨tn, ts, tz⟩ = M at *
  generalize knowL l tn = K at *
  generalize lastNo l tn = L0 at *
  clear hk9 eK hset hnm hs
  obtain ⟨W, hW⟩ : ∃ W, W = w.alloc (.cells #[.string tn, .slice A n c, .bool tz] 38) := ⟨_, rfl⟩
  have hbW : Below w.heap.size w W := by rw [hW]; exact alloc_b _
  have bt : Blk W w.heap.size 38 #[.string tn, .slice A n c, .bool tz] := by rw [hW]; exact Blk.new _ _ _
  have hWs := hbW.size
  have q0 := (bt.cell 0).trans (show (#[.string tn, .slice A n c, .bool tz] : Array Value)[0]? = some (.string tn) from rfl)
  have q1 := (bt.cell 1).trans (show (#[.string tn, .slice A n c, .bool tz] : Array Value)[1]? = some (.slice A n c) from rfl)
  have q2 := (bt.cell 2).trans (show (#[.string tn, .slice A n c, .bool tz] : Array Value)[2]? = some (.bool tz) from rfl)
  go_enter Tryz.func35, Tryz.ntmps35
  go_upto_region 1 with fail
  try rw [← hW]
  clear hW
  go_upto_region 2 with (first
    | (go_at_call 56
       refine (HC.out _ hbW).mono ?_
       rintro e w2 ⟨A2, n2, c2, rfl, hc2, hI2, hb2⟩
       have bt2 := bt.below hb2 bt.lt
       have hbw2 := hbW.trans (hb2.mono hWs)
       have z0 := bt2.cell 0
       have z1 := bt2.cell 1
       have z2 := bt2.cell 2
       have f0 := bt2.frozen 0
       have f1 := bt2.frozen 1
       have f2 := bt2.frozen 2))
  obtain ⟨W2, hW2⟩ : ∃ W2, W2 = (((w2.setCell ⟨w.heap.size, 0, none⟩ (.string tn)).setCell ⟨w.heap.size, 1, none⟩ (.slice A2 n2 c2)).setCell ⟨w.heap.size, 2, none⟩ (.bool tz)) := ⟨_, rfl⟩
  have hgs : w2.grownBy W2 (some w.heap.size) := by rw [hW2]; exact only_setCell (p := ⟨w.heap.size, 2, none⟩) (only_setCell (p := ⟨w.heap.size, 1, none⟩) (only_setCell (p := ⟨w.heap.size, 0, none⟩) (only_self w2 w.heap.size) (.inl rfl) _) (.inl rfl) _) (.inl rfl) _
  have bt3 : Blk W2 w.heap.size 38 #[.string tn, .slice A2 n2 c2, .bool tz] := by rw [hW2]; exact stored_row (u := .string tn) (v := .slice A2 n2 c2) (x := .bool tz) bt2 rfl
  have hI3 : InS W2 0 A2 n2 ts := insFar hI2 (farT_blk bt2 (by decide)) hgs
  have hbw3 : Below w.heap.size w W2 := by rw [hW2]; exact three_b hbw2 (by omega) _ _ _
  have hq3 : TrQ W2 B v l bs := h.below hbw3
  try rw [← hW2]
  clear hW2 z0 z1 z2 f0 f1 f2 q0 q1 q2 hgs hI2 bt2 hb2 hbw2 bt hbW hWs h ht
  have q0 := (bt3.cell 0).trans (show (#[.string tn, .slice A2 n2 c2, .bool tz] : Array Value)[0]? = some (.string tn) from rfl)
  go_upto_region 3 with (first
    | (go_at_call 55
       refine (HF.out _ hq3).mono ?_
       rintro e w1 ⟨rfl, rfl⟩))
  clear q0
  have HBx := hide (fun (wx : World) (hx : Below W2.heap.size W2 wx) => (show wx.cell? ⟨w.heap.size, 0, none⟩ = some (.string tn) ∧ wx.cell? ⟨w.heap.size, 1, none⟩ = some (.slice A2 n2 c2) ∧ wx.cell? ⟨w.heap.size, 2, none⟩ = some (.bool tz) from
    ⟨((bt3.below hx bt3.lt).cell 0).trans rfl, ((bt3.below hx bt3.lt).cell 1).trans rfl, ((bt3.below hx bt3.lt).cell 2).trans rfl⟩))
  have kr : Below W2.heap.size W2 W2 := Below.refl _ _
  have kd : Below W2.heap.size W2 W2.drew := (Below.refl _ _).drew
  have ka : Below W2.heap.size W2 (W2.alloc (.cells #[.string ⟨#[]⟩, .slice none 0 0, .bool false, .int .i64 0, .int .i64 0, .int .i64 0, .string ⟨#[]⟩, .slice none 0 0, .bool false] 73)) := alloc_b _
  have kda : Below W2.heap.size W2 (W2.drew.alloc (.cells #[.string ⟨#[]⟩, .slice none 0 0, .bool false, .int .i64 0, .int .i64 0, .int .i64 0, .string ⟨#[]⟩, .slice none 0 0, .bool false] 73)) := kd.alloc (Nat.le_refl _) _
  have kad : Below W2.heap.size W2 (W2.alloc (.cells #[.string ⟨#[]⟩, .slice none 0 0, .bool false, .int .i64 0, .int .i64 0, .int .i64 0, .string ⟨#[]⟩, .slice none 0 0, .bool false] 73)).drew := ka.drew
  have hnewd : Blk (W2.alloc (.cells #[.string ⟨#[]⟩, .slice none 0 0, .bool false, .int .i64 0, .int .i64 0, .int .i64 0, .string ⟨#[]⟩, .slice none 0 0, .bool false] 73)).drew W2.heap.size 73 zeroE := (Blk.new W2 73 zeroE).drew
  have hltd := hnewd.lt
  have q0 := HBx.out _ kr
  have cr := HBx.out _ kr
  have cd := HBx.out _ kd
  have ca := HBx.out _ ka
  have cda := HBx.out _ kda
  have cad := HBx.out _ kad
  go_region_held3 (fun w' => w'.cell? ⟨w.heap.size, 0, none⟩ = some (.string tn) ∧ w'.cell? ⟨w.heap.size, 1, none⟩ = some (.slice A2 n2 c2) ∧ w'.cell? ⟨w.heap.size, 2, none⟩ = some (.bool tz)) (first | with_reducible exact ch9 | with_reducible exact ch9v | with_reducible exact ch7a | with_reducible exact ch7 | with_reducible exact ch6a | with_reducible exact ch6 | with_reducible exact cd | with_reducible exact cr | with_reducible exact cda | with_reducible exact ca | with_reducible exact cad | go_keep)
    (first
      | (go_at_call 10
         refine (HLv.out _ (hq3.below (by with_reducible first | exact kd | exact kad | exact kda))).mono ?_
         rintro e w8 ⟨rfl, rfl⟩)
      | (go_at_call 57
         refine (HKn.out _ (hq3.below (by with_reducible first | exact kd | exact kad | exact kda))).mono ?_
         rintro e w6 ⟨A5, n5, c5, rfl, hc5, hI5, hb6⟩
         have hk6 : Below W2.heap.size W2 w6 := by with_reducible first | exact kd.trans (hb6.mono kd.size) | exact kad.trans (hb6.mono kad.size) | exact kda.trans (hb6.mono kda.size)
         have hk6a := hk6.alloc hk6.size (.cells #[.string ⟨#[]⟩, .slice none 0 0, .bool false, .int .i64 0, .int .i64 0, .int .i64 0, .string ⟨#[]⟩, .slice none 0 0, .bool false] 73)
         have ch6 := HBx.out _ hk6
         have ch6a := HBx.out _ hk6a
         have hI5a := hI5.below (alloc_b (w := w6) (.cells #[.string ⟨#[]⟩, .slice none 0 0, .bool false, .int .i64 0, .int .i64 0, .int .i64 0, .string ⟨#[]⟩, .slice none 0 0, .bool false] 73))
         have hnew6 := Blk.new w6 73 zeroE
         have hlt6 := hnew6.lt
         have hI51 : SpOn w6 A5 n5 K.set := hI5.1
         have hI51a : SpOn (w6.alloc (.cells #[.string ⟨#[]⟩, .slice none 0 0, .bool false, .int .i64 0, .int .i64 0, .int .i64 0, .string ⟨#[]⟩, .slice none 0 0, .bool false] 73)) A5 n5 K.set := hI5a.1
         have hI36 := SpOn.on hI3.1 hk6
         have hI36a := SpOn.on hI3.1 hk6a
         try (have nb6 : Blk w6 W2.heap.size 73 zeroE := by with_reducible exact Blk.below hnewd hb6 hltd))
      | (go_at_call 39
         refine (HM.out _ _ _ _ _ _ _ (by with_reducible first | exact hI51 | exact hI51a) (by with_reducible first | exact hI36 | exact hI36a)).mono ?_
         rintro e w7 ⟨A6, n6, c6, rfl, hN6, hb7⟩
         have hk7 : Below W2.heap.size W2 w7 := by with_reducible first | exact hk6.trans (hb7.mono hk6.size) | exact hk6a.trans (hb7.mono hk6a.size)
         have hk7a := hk7.alloc hk7.size (.cells #[.string ⟨#[]⟩, .slice none 0 0, .bool false, .int .i64 0, .int .i64 0, .int .i64 0, .string ⟨#[]⟩, .slice none 0 0, .bool false] 73)
         have ch7 := HBx.out _ hk7
         have ch7a := HBx.out _ hk7a
         have hb9v := hk7.alloc hk7.size (.cells #[.string tn, .slice A2 n2 c2, .bool tz, .int .i64 (bs.length : Int), .int .i64 cz, .int .i64 (L0 : Int), .string M.name, .slice A6 n6 c6, .bool M.none] 73)
         have ch9v := HBx.out _ hb9v
         try (have nb7 : Blk w7 W2.heap.size 73 zeroE := by with_reducible exact Blk.below nb6 hb7 nb6.lt)
         try (have nb7 : Blk w7 w6.heap.size 73 zeroE := by with_reducible exact Blk.below hnew6 hb7 hlt6)
         try (have m0' := nb7.cell 0; have n0' := nb7.cell 0; have n1' := nb7.cell 1; have n2' := nb7.cell 2; have n3' := nb7.cell 3; have n4' := nb7.cell 4; have n5' := nb7.cell 5; have n6' := nb7.cell 6; have n7' := nb7.cell 7; have n8' := nb7.cell 8; unfold zeroE at n0' n1' n2' n3' n4' n5' n6' n7' n8'; have nf0' := nb7.frozen 0; have nf1' := nb7.frozen 1; have nf2' := nb7.frozen 2; have nf3' := nb7.frozen 3; have nf4' := nb7.frozen 4; have nf5' := nb7.frozen 5; have nf6' := nb7.frozen 6; have nf7' := nb7.frozen 7; have nf8' := nb7.frozen 8)
         try (have hp := puts9 (u0 := .string tn) (u1 := .slice A2 n2 c2) (u2 := .bool tz) (u3 := .int .i64 (bs.length : Int)) (u4 := .int .i64 cz) (u5 := .int .i64 (L0 : Int)) (u6 := .string M.name) (u7 := .slice A6 n6 c6) (u8 := .bool M.none) nb7; have hb9 := hk7.grown hp.2 hk7.size (fun k hk => by injection hk with hk; have := hk6.size; omega); have ch9 := HBx.out _ hb9)))
  all_goals (
    first
      | (obtain ⟨W9, hW9⟩ : ∃ W9 : World, W9 = (((((((((w7.setCell ⟨W2.heap.size, 0, none⟩ (.string tn)).setCell ⟨W2.heap.size, 1, none⟩ (.slice A2 n2 c2)).setCell ⟨W2.heap.size, 2, none⟩ (.bool tz)).setCell ⟨W2.heap.size, 3, none⟩ (.int .i64 (bs.length : Int))).setCell ⟨W2.heap.size, 4, none⟩ (.int .i64 cz)).setCell ⟨W2.heap.size, 5, none⟩ (.int .i64 (L0 : Int))).setCell ⟨W2.heap.size, 6, none⟩ (.string M.name)).setCell ⟨W2.heap.size, 7, none⟩ (.slice A6 n6 c6)).setCell ⟨W2.heap.size, 8, none⟩ (.bool M.none)) := ⟨_, rfl⟩
         have hblk : Blk W9 W2.heap.size 73 #[.string tn, .slice A2 n2 c2, .bool tz, .int .i64 (bs.length : Int), .int .i64 cz, .int .i64 (L0 : Int), .string M.name, .slice A6 n6 c6, .bool M.none] := by rw [hW9]; with_reducible exact hp.1
         have hbW3 : Below W2.heap.size W2 W9 := by rw [hW9]; exact hb9
         have hI6 : InS W9 0 A6 n6 M.set := by rw [hW9]; exact insFar (InS.of_new (B' := 0) hN6) (farT_blk nb7 (by decide)) hp.2
         rw [← hW9]
         clear hp hb9 ch9 nb7
         obtain ⟨g9, hg9⟩ : ∃ g9 : Nat, g9 = W2.heap.size := ⟨_, rfl⟩
         rw [← hg9] at hblk
         try rw [← hg9]
         clear hW9 hg9)
      | (obtain ⟨W9, hW9⟩ : ∃ W9 : World, W9 = (((((((((w7.setCell ⟨w6.heap.size, 0, none⟩ (.string tn)).setCell ⟨w6.heap.size, 1, none⟩ (.slice A2 n2 c2)).setCell ⟨w6.heap.size, 2, none⟩ (.bool tz)).setCell ⟨w6.heap.size, 3, none⟩ (.int .i64 (bs.length : Int))).setCell ⟨w6.heap.size, 4, none⟩ (.int .i64 cz)).setCell ⟨w6.heap.size, 5, none⟩ (.int .i64 (L0 : Int))).setCell ⟨w6.heap.size, 6, none⟩ (.string M.name)).setCell ⟨w6.heap.size, 7, none⟩ (.slice A6 n6 c6)).setCell ⟨w6.heap.size, 8, none⟩ (.bool M.none)) := ⟨_, rfl⟩
         have hblk : Blk W9 w6.heap.size 73 #[.string tn, .slice A2 n2 c2, .bool tz, .int .i64 (bs.length : Int), .int .i64 cz, .int .i64 (L0 : Int), .string M.name, .slice A6 n6 c6, .bool M.none] := by rw [hW9]; with_reducible exact hp.1
         have hbW3 : Below W2.heap.size W2 W9 := by rw [hW9]; exact hb9
         have hI6 : InS W9 0 A6 n6 M.set := by rw [hW9]; exact insFar (InS.of_new (B' := 0) hN6) (farT_blk nb7 (by decide)) hp.2
         rw [← hW9]
         clear hp hb9 ch9 nb7
         obtain ⟨g9, hg9⟩ : ∃ g9 : Nat, g9 = w6.heap.size := ⟨_, rfl⟩
         rw [← hg9] at hblk
         try rw [← hg9]
         clear hW9 hg9)
      | (obtain ⟨W9, hW9⟩ : ∃ W9 : World, W9 = w7.alloc (.cells #[.string tn, .slice A2 n2 c2, .bool tz, .int .i64 (bs.length : Int), .int .i64 cz, .int .i64 (L0 : Int), .string M.name, .slice A6 n6 c6, .bool M.none] 73) := ⟨_, rfl⟩
         have hblk : Blk W9 w7.heap.size 73 #[.string tn, .slice A2 n2 c2, .bool tz, .int .i64 (bs.length : Int), .int .i64 cz, .int .i64 (L0 : Int), .string M.name, .slice A6 n6 c6, .bool M.none] := by rw [hW9]; exact Blk.new _ _ _
         have hbW3 : Below W2.heap.size W2 W9 := by rw [hW9]; exact hb9v
         have hI6 : InS W9 0 A6 n6 M.set := by rw [hW9]; exact (InS.of_new (B' := 0) hN6).below (alloc_b _)
         rw [← hW9]
         obtain ⟨g9, hg9⟩ : ∃ g9 : Nat, g9 = w7.heap.size := ⟨_, rfl⟩
         rw [← hg9] at hblk
         try rw [← hg9]
         clear hW9 hg9)
    rw [HMn.out] at hblk
    have hc6 := hN6.2.1
    clear hb9v ch9v hk7 hk7a ch7 ch7a hb7 hN6 hk6 hk6a ch6 ch6a hb6 hI5 hI5a hI51 hI51a hI36 hI36a hnew6 hlt6 hnewd hltd kr kd ka kda kad q0 cr cd ca cda cad HBx HC HF HKn HM HLv
    have bt4 := bt3.below hbW3 bt3.lt
    have hI4 := hI3.below hbW3
    have hq4 := hq3.below hbW3
    have hbw4 := hbw3.trans (hbW3.mono hbw3.size)
    obtain ⟨i0, hi0, hz0, hz1, hz2⟩ := info_parts info_entry
    obtain ⟨g0, ve, vb, mo, rfl, hBg, h1, ⟨rs, ho, hall2⟩, h3, h4⟩ := hq4
    obtain ⟨Ae, ce, rfl, hce, hcm, _⟩ := own_form ho
    have HBg := hide hBg
    have Hsz := hide (show B ≤ W9.heap.size by have := h1.lt; omega)
    have kp9 := Keeps.of_below (TS := TrS) hbw4 hBw
    have hone := rns_one [⟨tn, .slice A2 n2 c2, tz, (bs.length : Int), cz, (L0 : Int), .slice A6 n6 c6, M.none⟩] (fun r hr => by rw [List.mem_singleton.1 hr]; exact ⟨⟨_, _, _, rfl⟩, _, _, _, rfl⟩)
    have h09 : 0 < 9 := by omega
    have hlt0 := h1.lt
    have hlt9 := hblk.lt
    have hltb := bt4.lt
    have x0 := (h1.cell 0).trans (show _ = some (Value.slice Ae l.length ce) from rfl)
    have e0 := (hblk.cell 0).trans (show _ = some (Value.string tn) from rfl)
    have e1 := (hblk.cell 1).trans (show _ = some (Value.slice A2 n2 c2) from rfl)
    have e2 := (hblk.cell 2).trans (show _ = some (Value.bool tz) from rfl)
    have e3 := (hblk.cell 3).trans (show _ = some (Value.int .i64 (bs.length : Int)) from rfl)
    have e4 := (hblk.cell 4).trans (show _ = some (Value.int .i64 cz) from rfl)
    have e5 := (hblk.cell 5).trans (show _ = some (Value.int .i64 (L0 : Int)) from rfl)
    have e6 := (hblk.cell 6).trans (show _ = some (Value.string tn) from rfl)
    have e7 := (hblk.cell 7).trans (show _ = some (Value.slice A6 n6 c6) from rfl)
    have e8 := (hblk.cell 8).trans (show _ = some (Value.bool M.none) from rfl)
    clear hbW3 hce hcm hbw4 hBg
    have hmm := @run_makeMap Tryz.prog
    have hm0 := eq_map0
    have hm1 := eq_map1
    rcases mo with _ | b
    · have Hl0 : Hid (l = []) := hide (by
        rcases h4 with ⟨_, e⟩ | ⟨b, m, e, _⟩
        · exact e
        · cases e)
      go_upto_region 4 with fail
      go_region_law (
        refine step_append_any rfl (.tmp 32) (.tmp 34) _ rfl B 73 i0 _ 9 120 Tryz.underlying57 hi0 hz0 hz1 hz2 rfl h09 _ l.length (rns rs) rfl (own_below ho ?_) _ _ 1 _ _ rfl (reads_rn _ tn (.slice A2 n2 c2) (.slice A6 n6 c6) tz M.none (bs.length : Int) cz (L0 : Int) _ _ ?_) hone ?_ ?_ ?_ ?_
        · exact (below_drewN (Below.refl _ _) _).alloc (Nat.le_refl _) _
        · rfl
        · have := Hl.out; unfold maxLen; omega
        · have := Hl.out; omega
        · have := Hsz.out; simp; omega
        intro v5 w5 hown5 hg5 _
        obtain ⟨h15, bt5, h35, h45, kp5x⟩ := put_facts ((below_drewN (Below.refl _ _) _).alloc (Nat.le_refl _) _) ho h1 bt4 h3 h4 hg5 Hsz.out
        have h25 := HCat.out _ w5 _ v5 rs A2 A6 n2 c2 n6 c6 (own_below ho ((below_drewN (Below.refl _ _) _).alloc (Nat.le_refl _) _)) (hall2.mono fun _ _ _ hs => hs.below ((below_drewN (Below.refl _ _) _).alloc (Nat.le_refl _) _)) (hI4.below ((below_drewN (Below.refl _ _) _).alloc (Nat.le_refl _) _)) hc2 (hI6.below ((below_drewN (Below.refl _ _) _).alloc (Nat.le_refl _) _)) hc6 hown5 hg5
        have kp5 := hide (kp9.trans kp5x)
        obtain ⟨Af, cf, ef, hcf, _⟩ := h25.form
        rw [List.length_append, List.length_singleton] at ef
        subst ef
        have k50 := h15.cell 0
        have k52 := (h15.cell 2).trans (show _ = some (Value.map none) from rfl)
        have f50 := h15.frozen 0
        have f52 := h15.frozen 2
        have hlt5 := h15.lt
        have hne5 : g0 ≠ w5.heap.size := Nat.ne_of_lt hlt5
        clear hown5 hg5 kp5x)
      all_goals (
        try go_upto_region 7 with fail
        obtain ⟨b, hb⟩ : ∃ b, b = w5.heap.size := ⟨_, rfl⟩
        have hg0b : g0 ≠ b := by have := h15.lt; omega
        obtain ⟨W5, hW5⟩ : ∃ W5, W5 = w5.setCell ⟨g0, 0, none⟩ (.slice Af (l.length + 1) cf) := ⟨_, rfl⟩
        have hgW5 : w5.grownBy W5 (some g0) := by rw [hW5]; exact only_setCell (p := ⟨g0, 0, none⟩) (only_self w5 g0) (.inl rfl) _
        have h16 : Blk W5 g0 61 #[.slice Af (l.length + 1) cf, vb, .map none] := by rw [hW5]; exact h15.set_ 0 _
        have hs5 : W5.heap.size = b := by rw [hW5, hb]; simp
        obtain ⟨W7, hW7⟩ : ∃ W7, W7 = (W5.setCell ⟨g0, 2, none⟩ (.map (some b))).alloc (.map #[] 0) := ⟨_, rfl⟩
        have hgW7 : W5.grownBy W7 (some g0) := by rw [hW7]; exact only_alloc (only_setCell (p := ⟨g0, 2, none⟩) (only_self W5 g0) (.inl rfl) _) _
        have H17 : Blk ((W5.setCell ⟨g0, 2, none⟩ (.map (some b))).alloc (.map #[] 0)) g0 61 #[.slice Af (l.length + 1) cf, vb, .map (some b)] := (h16.set_ 2 _).alloc _
        have hT7 : OwnTold W7 b 0 (lastV l) := by
          have h9 := OwnTold.made (W5.setCell ⟨g0, 2, none⟩ (.map (some b)))
          rw [show (W5.setCell ⟨g0, 2, none⟩ (.map (some b))).heap.size = b by simpa using hs5] at h9
          rw [hW7, Hl0.out]
          exact h9
        have hm : 0 ≤ cntN l := Nat.zero_le _
        have hBb : B ≤ b := by have := HBg.out; have := h15.lt; omega
        have h27 := (h25.far (farT_blk h15 (by decide)) (farT_blk h15 (by decide)) hgW5).far (farT_blk h16 (by decide)) (farT_blk h16 (by decide)) hgW7
        have h37 := (h35.far (farT_blk h15 (by decide)) hgW5).far (farT_blk h16 (by decide)) hgW7
        have bt6 := bt5.grown hgW5 (fun e => by injection e with e; exact blk_ne bt5 h15 (by decide) e)
        have bt7 := bt6.grown hgW7 (fun e => by injection e with e; exact blk_ne bt6 h16 (by decide) e)
        have kp7 := hide ((kp5.out.trans (keeps_cells hgW5 HBg.out h15 (.inl rfl))).trans (keeps_cells hgW7 HBg.out h16 (.inl rfl)))
        obtain ⟨m, hm0⟩ : ∃ m : Nat, m = 0 := ⟨0, rfl⟩
        rw [← hm0] at hT7 hm
        try rw [← hW5]
        try rw [← hb]
        clear hW5 hs5 hb hm0 h15 h16 hgW5 hgW7 h25 h35 h45 bt5 bt6 k50 k52 f50 f52
        have h17 : Blk W7 g0 61 #[.slice Af (l.length + 1) cf, vb, .map (some b)] := by rw [hW7]; exact H17
        have kd : Below W7.heap.size W7 W7.drew := (Below.refl _ _).drew
        obtain ⟨w10, m10, hrun, hm10, hT10, ht10⟩ := HPut.out W7.drew b m (hT7.below kd) hm
        have hg10 : W7.grownBy w10 (some b) := only_bothR (only_of_below kd _) ht10.grown
        have k70 := h17.cell 0
        have k72 := (h17.cell 2).trans (show _ = some (Value.map (some b)) from rfl)
        have t70 := (bt7.cell 0).trans (show _ = some (Value.string tn) from rfl)
        have r1 := h17.grown hg10 (fun e => by injection e with e; exact told_ne hT7 h17 e.symm)
        have r2 := h27.far (farT_told _ hT7) (farT_told _ hT7) hg10
        have r3 := h37.far (farT_told _ hT7) hg10
        have r5 := hide ((kp7.out).trans (keeps_map hg10 hBb hT7))
        try rw [← hW7]
        clear hW7 H17
        go_region
        refine bodyPost_end (results_none rfl _ _ _) rfl ?_
        exact ⟨rfl, ⟨g0, _, _, some b, rfl, HBg.out, r1, r2, r3, .inr ⟨b, m10, rfl, hBb, hm10, hT10⟩⟩, r5.out⟩)
    · go_upto_region 4 with fail
      go_region_law (
        refine step_append_any rfl (.tmp 32) (.tmp 34) _ rfl B 73 i0 _ 9 120 Tryz.underlying57 hi0 hz0 hz1 hz2 rfl h09 _ l.length (rns rs) rfl (own_below ho ?_) _ _ 1 _ _ rfl (reads_rn _ tn (.slice A2 n2 c2) (.slice A6 n6 c6) tz M.none (bs.length : Int) cz (L0 : Int) _ _ ?_) hone ?_ ?_ ?_ ?_
        · exact (below_drewN (Below.refl _ _) _).alloc (Nat.le_refl _) _
        · rfl
        · have := Hl.out; unfold maxLen; omega
        · have := Hl.out; omega
        · have := Hsz.out; simp; omega
        intro v5 w5 hown5 hg5 _
        obtain ⟨h15, bt5, h35, h45, kp5x⟩ := put_facts ((below_drewN (Below.refl _ _) _).alloc (Nat.le_refl _) _) ho h1 bt4 h3 h4 hg5 Hsz.out
        have h25 := HCat.out _ w5 _ v5 rs A2 A6 n2 c2 n6 c6 (own_below ho ((below_drewN (Below.refl _ _) _).alloc (Nat.le_refl _) _)) (hall2.mono fun _ _ _ hs => hs.below ((below_drewN (Below.refl _ _) _).alloc (Nat.le_refl _) _)) (hI4.below ((below_drewN (Below.refl _ _) _).alloc (Nat.le_refl _) _)) hc2 (hI6.below ((below_drewN (Below.refl _ _) _).alloc (Nat.le_refl _) _)) hc6 hown5 hg5
        have kp5 := hide (kp9.trans kp5x)
        obtain ⟨Af, cf, ef, hcf, _⟩ := h25.form
        rw [List.length_append, List.length_singleton] at ef
        subst ef
        have k50 := h15.cell 0
        have k52 := (h15.cell 2).trans (show _ = some (Value.map (some b)) from rfl)
        have f50 := h15.frozen 0
        have f52 := h15.frozen 2
        have hlt5 := h15.lt
        have hne5 : g0 ≠ w5.heap.size := Nat.ne_of_lt hlt5
        clear hown5 hg5 kp5x)
      all_goals (
        try go_upto_region 7 with fail
        obtain ⟨W7, hW7⟩ : ∃ W7, W7 = w5.setCell ⟨g0, 0, none⟩ (.slice Af (l.length + 1) cf) := ⟨_, rfl⟩
        have hgW7 : w5.grownBy W7 (some g0) := by rw [hW7]; exact only_setCell (p := ⟨g0, 0, none⟩) (only_self w5 g0) (.inl rfl) _
        have H17 : Blk (w5.setCell ⟨g0, 0, none⟩ (.slice Af (l.length + 1) cf)) g0 61 #[.slice Af (l.length + 1) cf, vb, .map (some b)] := h15.set_ 0 _
        have h47 := h45.cells h15 hgW7
        obtain ⟨m, hBb, hm, hT7⟩ : ∃ m, B ≤ b ∧ m ≤ cntN l ∧ OwnTold W7 b m (lastV l) := by
          rcases h47 with ⟨e, _⟩ | ⟨b', m, e, z1, z2, z3⟩
          · cases e
          · injection e with e
            subst e
            exact ⟨m, z1, z2, z3⟩
        have h27 := h25.far (farT_blk h15 (by decide)) (farT_blk h15 (by decide)) hgW7
        have h37 := h35.far (farT_blk h15 (by decide)) hgW7
        have bt7 := bt5.grown hgW7 (fun e => by injection e with e; exact blk_ne bt5 h15 (by decide) e)
        have kp7 := hide (kp5.out.trans (keeps_cells hgW7 HBg.out h15 (.inl rfl)))
        clear h47 h15 hgW7 h25 h35 h45 bt5 k50 k52 f50 f52
        have h17 : Blk W7 g0 61 #[.slice Af (l.length + 1) cf, vb, .map (some b)] := by rw [hW7]; exact H17
        have kd : Below W7.heap.size W7 W7.drew := (Below.refl _ _).drew
        obtain ⟨w10, m10, hrun, hm10, hT10, ht10⟩ := HPut.out W7.drew b m (hT7.below kd) hm
        have hg10 : W7.grownBy w10 (some b) := only_bothR (only_of_below kd _) ht10.grown
        have k70 := h17.cell 0
        have k72 := (h17.cell 2).trans (show _ = some (Value.map (some b)) from rfl)
        have t70 := (bt7.cell 0).trans (show _ = some (Value.string tn) from rfl)
        have r1 := h17.grown hg10 (fun e => by injection e with e; exact told_ne hT7 h17 e.symm)
        have r2 := h27.far (farT_told _ hT7) (farT_told _ hT7) hg10
        have r3 := h37.far (farT_told _ hT7) hg10
        have r5 := hide ((kp7.out).trans (keeps_map hg10 hBb hT7))
        try rw [← hW7]
        clear hW7 H17
        go_region
        refine bodyPost_end (results_none rfl _ _ _) rfl ?_
        exact ⟨rfl, ⟨g0, _, _, some b, rfl, HBg.out, r1, r2, r3, .inr ⟨b, m10, rfl, hBb, hm10, hT10⟩⟩, r5.out⟩))
end
end Go.Proofs.YtllogmokadcfmaaGreat.Trail
/-
  The contract of the program's Derive: a term is derived, where it tells something new. Condition: names of at most 1,000,000,000 bytes, at most 900 entries, whose sets may be and are short.
-/
namespace Go.Proofs.YtllogmokadcfmaaGreat.Trail
open Go Go.RowKit Go.Lib Go.Proofs.YtllogmokadcfmaaGreat.Span Go.Proofs.YtllogmokadcfmaaGreat.Need Go.Proofs.YtllogmokadcfmaaGreat.Mani Go.Proofs.YtllogmokadcfmaaGreat.Grow Go.Proofs.YtllogmokadcfmaaGreat.Term
open Go.Proofs.YtllogmokadcfmaaGreat.Label (runes fitL)
set_option linter.unusedVariables false
section
variable {w w' : World} {B : Nat} {v : Value} {x : Tr}
set_option maxHeartbeats 8000000 in
set_option maxRecDepth 100000 in
theorem deriveTr_any (t : Tm) (A : Option Addr) (n c : Nat) (cz : Int) (h : TrP w B v x) (hs : SmallE x.l) (hl : x.l.length ≤ 900) (hlv : x.level ≤ 900) (ht : SpOn w A n t.set) (htl : t.set.length ≤ 60) (hnm : t.name.size ≤ 1000000000) :
    Calls Tryz.prog 14 #[v, .agg #[.string t.name, .slice A n c, .bool t.none], .int .i64 cz] w (MovesT TrP TrS B w v (deriveT x t cz)) := by
  have hBw := h.size
  have hn : n ≤ 60 := by have := ht.1; omega
  obtain ⟨R, hR⟩ : ∃ R, deriveT x t cz = R := ⟨_, rfl⟩
  have HR := hide (hR.symm.trans (by unfold deriveT; rfl))
  rw [hR]
  have HC := hide (fun (wx : World) (hb : Below w.heap.size w wx) => checkT_any t.name t.set t.none A n c wx (SpOn.on ht hb) (by omega) (by omega))
  have eC : (fitL (runes t.name 0) && isSet (-1) t.set) = okT t := rfl
  rw [eC] at HC
  unfold Tells at HC
  have HK := hide (fun (wx : World) (hb : Below w.heap.size w wx) => knowTr_any t.name (h.below hb) hs (by omega) hnm)
  unfold TellsC at HK
  have hKn : (knowL x.l t.name).name = t.name := know_name _ _
  have hKs : isSet (-1) (knowL x.l t.name).set = true := know_set _ _
  have Hh := hide h
  obtain ⟨bs, hq, h5⟩ := h.q
  have hbl := h5.beg.len
  have Hq := hide hq
  have H5 := hide h5
  have Ht := hide ht
  obtain ⟨g0, rfl, hgl, hBg, _⟩ := h.ahead
  unfold MovesT
  obtain ⟨W, hW⟩ : ∃ W, W = w.alloc (.cells #[.string t.name, .slice A n c, .bool t.none] 38) := ⟨_, rfl⟩
  have hbW : Below w.heap.size w W := by rw [hW]; exact alloc_b _
  have bt : Blk W w.heap.size 38 #[.string t.name, .slice A n c, .bool t.none] := by rw [hW]; exact Blk.new _ _ _
  have hWs := hbW.size
  clear h ht hq h5 eC
  cases hok : okT t with
  | false =>
    have E : Hid (R = (1, x)) := hide (by rw [HR.out, hok]; simp)
    rw [hok] at HC
    clear HR hR HK hok hKn hKs
    obtain ⟨tn, ts, tz⟩ := t
    simp only [] at HC bt
    have q0 := (bt.cell 0).trans (show (#[.string tn, .slice A n c, .bool tz] : Array Value)[0]? = some (.string tn) from rfl)
    have q1 := (bt.cell 1).trans (show (#[.string tn, .slice A n c, .bool tz] : Array Value)[1]? = some (.slice A n c) from rfl)
    have q2 := (bt.cell 2).trans (show (#[.string tn, .slice A n c, .bool tz] : Array Value)[2]? = some (.bool tz) from rfl)
    go_enter Tryz.func14, Tryz.ntmps14
    go_upto_region 1 with fail
    try rw [← hW]
    clear hW
    go_wp2_with (first
      | (go_at_call 37
         refine (HC.out _ hbW).mono ?_
         rintro e w1 ⟨rfl, hb1⟩
         have hbw1 := hbW.trans (hb1.mono hWs)))
    go_ret
    rw [E.out]
    exact ⟨rfl, Hh.out.below hbw1, Keeps.of_below hbw1 hBw⟩
  | true =>
    rw [hok] at HC
    by_cases hcz : cz < 0
    · have E : Hid (R = (1, x)) := hide (by rw [HR.out]; simp [hcz])
      clear HR hR HK hok hKn hKs
      obtain ⟨tn, ts, tz⟩ := t
      simp only [] at HC bt
      have q0 := (bt.cell 0).trans (show (#[.string tn, .slice A n c, .bool tz] : Array Value)[0]? = some (.string tn) from rfl)
      have q1 := (bt.cell 1).trans (show (#[.string tn, .slice A n c, .bool tz] : Array Value)[1]? = some (.slice A n c) from rfl)
      have q2 := (bt.cell 2).trans (show (#[.string tn, .slice A n c, .bool tz] : Array Value)[2]? = some (.bool tz) from rfl)
      go_enter Tryz.func14, Tryz.ntmps14
      go_upto_region 1 with fail
      try rw [← hW]
      clear hW
      go_wp2_with (first
        | (go_at_call 37
           refine (HC.out _ hbW).mono ?_
           rintro e w1 ⟨rfl, hb1⟩
           have hbw1 := hbW.trans (hb1.mono hWs)))
      go_ret
      rw [E.out]
      exact ⟨rfl, Hh.out.below hbw1, Keeps.of_below hbw1 hBw⟩
    · have hset : isSet (-1) t.set = true := by
        unfold okT at hok
        simp only [Bool.and_eq_true] at hok
        exact hok.2
      have HM := hide (fun (wx : World) (A1 A3 : Option Addr) (n1 c1 n3 c3 : Nat) (h1 : SpOn wx A1 n1 (knowL x.l t.name).set) (h3 : SpOn wx A3 n3 t.set) => meetT_any (knowL x.l t.name).name t.name (knowL x.l t.name).set t.set (knowL x.l t.name).none t.none A1 A3 n1 c1 n3 c3 wx h1 h3 (by rw [hKn]; exact hnm) hKs hset)
      have HW := hide (fun (wx : World) (A1 A3 : Option Addr) (n1 c1 n3 c3 : Nat) (h1 : SpOn wx A1 n1 (knowL x.l t.name).set) (h3 : SpOn wx A3 n3 t.set) => withinT_any (knowL x.l t.name).name t.name (knowL x.l t.name).set t.set (knowL x.l t.name).none t.none A1 A3 n1 c1 n3 c3 wx h1 h3 hKs hset)
      have eK : meetT ⟨(knowL x.l t.name).name, (knowL x.l t.name).set, (knowL x.l t.name).none⟩ ⟨t.name, t.set, t.none⟩ = meetT (knowL x.l t.name) t := rfl
      have eW : (decide ((knowL x.l t.name).name = t.name) && (decide (lessS (knowL x.l t.name).set t.set = []) && (t.none || !(knowL x.l t.name).none))) = withinT (knowL x.l t.name) t := rfl
      rw [eK] at HM
      rw [eW] at HW
      have HQ := hide (fun (wx : World) (A1 : Option Addr) (n1 c1 : Nat) (h1 : SpOn wx A1 n1 (meetT (knowL x.l t.name) t).set) => emptyT_any (meetT (knowL x.l t.name) t).name (meetT (knowL x.l t.name) t).set (meetT (knowL x.l t.name) t).none A1 n1 c1 wx h1)
      have eE : (!(meetT (knowL x.l t.name) t).none && decide ((meetT (knowL x.l t.name) t).set = [])) = emptyT (meetT (knowL x.l t.name) t) := rfl
      rw [eE] at HQ
      unfold MakesT at HM
      unfold Tells at HW HQ
      have HR2 : Hid (R = if emptyT (meetT (knowL x.l t.name) t) = true then (2, x) else if withinT (knowL x.l t.name) t = true then (3, x) else (0, putT x t cz)) := hide (by rw [HR.out, hok]; simp [hcz])
      have HPut := hide (fun (wx : World) (A1 : Option Addr) (n1 c1 : Nat) (hx : TrQ wx B (.pointer (some ⟨g0, 0, none⟩)) x.l bs) (h1 : SpOn wx A1 n1 t.set) => putTr_any t A1 n1 c1 cz hx h1 (by have := h1.1; omega) hnm hset (by omega))
      rw [hbl] at HPut
      have HOk : Hid (OkL (putT x t cz) bs) := hide ⟨H5.out.beg.derive t (by omega), H5.out.dec.derive _ (by show 0 ≤ cz; omega), fun e he => by
        rcases List.mem_append.1 he with he | he
        · exact H5.out.names e he
        · rw [List.mem_singleton.1 he]; exact hnm⟩
      clear HR hR hok eK eW eE hs hl hlv hset hKs hbl H5 hnm htl
      generalize emptyT (meetT (knowL x.l t.name) t) = bE at *
      generalize meetT (knowL x.l t.name) t = M at *
      generalize withinT (knowL x.l t.name) t = bW at *
      generalize knowL x.l t.name = K at *
      clear hKn
      obtain ⟨T, hT⟩ : ∃ T, T = t := ⟨_, rfl⟩
      rw [← hT] at HPut HOk HR2
      have HT := hide hT
      clear hT
      obtain ⟨tn, ts, tz⟩ := t
      simp only [] at HC HK HM HW bt Ht
      have q0 := (bt.cell 0).trans (show (#[.string tn, .slice A n c, .bool tz] : Array Value)[0]? = some (.string tn) from rfl)
      have q1 := (bt.cell 1).trans (show (#[.string tn, .slice A n c, .bool tz] : Array Value)[1]? = some (.slice A n c) from rfl)
      have q2 := (bt.cell 2).trans (show (#[.string tn, .slice A n c, .bool tz] : Array Value)[2]? = some (.bool tz) from rfl)
      go_enter Tryz.func14, Tryz.ntmps14
      go_upto_region 1 with fail
      try rw [← hW]
      clear hW
      go_upto_region 4 with (first
        | (go_at_call 37
           refine (HC.out _ hbW).mono ?_
           rintro e w1 ⟨rfl, hb1⟩
           have hbw1 := hbW.trans (hb1.mono hWs)
           have bt1 := bt.below hb1 bt.lt
           have r0 := (bt1.cell 0).trans (show (#[.string tn, .slice A n c, .bool tz] : Array Value)[0]? = some (.string tn) from rfl))
        | (go_at_call 18
           refine (HK.out _ hbw1).mono ?_
           rintro e w2 ⟨A2, n2, c2, rfl, hc2, hI2, hb2⟩))
      obtain ⟨V, hV⟩ : ∃ V, V = w2.alloc (.cells #[.string K.name, .slice A2 n2 c2, .bool K.none] 38) := ⟨_, rfl⟩
      have hVb : Below w2.heap.size w2 V := by rw [hV]; exact alloc_b _
      have bk : Blk V w2.heap.size 38 #[.string K.name, .slice A2 n2 c2, .bool K.none] := by rw [hV]; exact Blk.new _ _ _
      have hb1V : Below w1.heap.size w1 V := hb2.trans (hVb.mono hb2.size)
      have btV := bt1.below hb1V bt1.lt
      have hbwV := hbw1.trans (hb1V.mono hbw1.size)
      have hIV := hI2.below hVb
      have htV := SpOn.on Ht.out hbwV
      try rw [← hV]
      clear hV q0 q1 q2 r0 hVb hI2 hb2 hb1V bt1 hb1 hbw1 bt hbW hWs HC HK
      generalize w2.heap.size = gk at *
      have HE := hide (fun (wx : World) (hx : Below V.heap.size V wx) => (⟨((bk.below hx bk.lt).cell 0).trans rfl, ((bk.below hx bk.lt).cell 1).trans rfl, ((bk.below hx bk.lt).cell 2).trans rfl, ((btV.below hx btV.lt).cell 0).trans rfl, ((btV.below hx btV.lt).cell 1).trans rfl, ((btV.below hx btV.lt).cell 2).trans rfl⟩ :
        wx.cell? ⟨gk, 0, none⟩ = some (.string K.name) ∧ wx.cell? ⟨gk, 1, none⟩ = some (.slice A2 n2 c2) ∧ wx.cell? ⟨gk, 2, none⟩ = some (.bool K.none) ∧ wx.cell? ⟨w.heap.size, 0, none⟩ = some (.string tn) ∧ wx.cell? ⟨w.heap.size, 1, none⟩ = some (.slice A n c) ∧ wx.cell? ⟨w.heap.size, 2, none⟩ = some (.bool tz)))
      obtain ⟨k0, k1, k2, p0, p1, p2⟩ := HE.out V (Below.refl _ _)
      have hVs := hbwV.size
      cases bE with
      | true =>
        have E : Hid (R = (2, x)) := hide (by rw [HR2.out]; rfl)
        clear HR2 HW
        go_wp2_with (first
          | (go_at_call 39
             refine (HM.out _ _ _ _ _ _ _ hIV.1 htV).mono ?_
             rintro e w3 ⟨A3, n3, c3, rfl, hN3, hb3⟩)
          | (go_at_call 38
             refine (HQ.out _ _ _ _ (on_new hN3)).mono ?_
             rintro e w4 ⟨rfl, hb4⟩
             have hbw4 := hbwV.trans ((hb3.trans (hb4.mono hb3.size)).mono hVs)))
        go_ret
        rw [E.out]
        exact ⟨rfl, Hh.out.below hbw4, Keeps.of_below hbw4 hBw⟩
      | false =>
        cases bW with
        | true =>
          have E : Hid (R = (3, x)) := hide (by rw [HR2.out]; rfl)
          clear HR2
          go_wp2_with (first
            | (go_at_call 39
               refine (HM.out _ _ _ _ _ _ _ hIV.1 htV).mono ?_
               rintro e w3 ⟨A3, n3, c3, rfl, hN3, hb3⟩)
            | (go_at_call 38
               refine (HQ.out _ _ _ _ (on_new hN3)).mono ?_
               rintro e w4 ⟨rfl, hb4⟩
               have hb34 := hb3.trans (hb4.mono hb3.size)
               have hbw4 := hbwV.trans (hb34.mono hVs)
               obtain ⟨y0, y1, y2, z0, z1, z2⟩ := HE.out _ hb34)
            | (go_at_call 40
               refine (HW.out _ _ _ _ _ _ _ (hIV.below hb34).1 (SpOn.on htV hb34)).mono ?_
               rintro e w5 ⟨rfl, hb5⟩
               have hbw5 := hbw4.trans (hb5.mono hbw4.size)))
          go_ret
          rw [E.out]
          exact ⟨rfl, Hh.out.below hbw5, Keeps.of_below hbw5 hBw⟩
        | false =>
          have E : Hid (R = (0, putT x T cz)) := hide (by rw [HR2.out]; rfl)
          clear HR2
          rw [HT.out] at HPut
          simp only [] at HPut
          go_wp2_with (first
            | (go_at_call 39
               refine (HM.out _ _ _ _ _ _ _ hIV.1 htV).mono ?_
               rintro e w3 ⟨A3, n3, c3, rfl, hN3, hb3⟩)
            | (go_at_call 38
               refine (HQ.out _ _ _ _ (on_new hN3)).mono ?_
               rintro e w4 ⟨rfl, hb4⟩
               have hb34 := hb3.trans (hb4.mono hb3.size)
               have hbw4 := hbwV.trans (hb34.mono hVs)
               obtain ⟨y0, y1, y2, z0, z1, z2⟩ := HE.out _ hb34)
            | (go_at_call 40
               refine (HW.out _ _ _ _ _ _ _ (hIV.below hb34).1 (SpOn.on htV hb34)).mono ?_
               rintro e w5 ⟨rfl, hb5⟩
               have hb35 := hb34.trans (hb5.mono hb34.size)
               have hbw5 := hbw4.trans (hb5.mono hbw4.size)
               obtain ⟨m0, m1, m2, n0', n1', n2'⟩ := HE.out _ hb35)
            | (go_at_call 35
               refine (HPut.out _ _ _ _ (Hq.out.below hbw5) (SpOn.on htV hb35)).mono ?_
               rintro e w6 ⟨rfl, hq6, hk6⟩))
          go_ret
          rw [E.out]
          refine ⟨rfl, ?_, (Keeps.of_below hbw5 hBw).trans hk6⟩
          rw [← HT.out] at hq6
          exact hq6.p (x := putT x T cz) HOk.out
set_option maxHeartbeats 2000000 in
set_option maxRecDepth 100000 in
theorem deriveTr_nil (nm : ByteArray) (z : Bool) (cz : Int) (w : World) : Calls Tryz.prog 14 #[.pointer none, .agg #[.string nm, .slice none 0 0, .bool z], .int .i64 cz] w fun e w' => e = .returned (.int .i64 1) ∧ Below w.heap.size w w' := by
  go_enter Tryz.func14, Tryz.ntmps14
  go_wp2
  go_ret
  exact ⟨rfl, alloc_b _⟩
end
end Go.Proofs.YtllogmokadcfmaaGreat.Trail
