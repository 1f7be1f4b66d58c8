/-
  Some texts of this claim, one behind the other: TrailRef4, TrailRef5, TrailRef6. What each proves, and its condition, stands at its head.
-/
import Derived.Test.YtllogmokadcfmaaGreatZB38
import Derived.Test.YtllogmokadcfmaaGreatZB39
import Derived.Test.YtllogmokadcfmaaGreatZB29
import Derived.Test.YtllogmokadcfmaaGreatZB26
/-
  The contract of the document's own Decide: a version is decided, if it is one of those that are known. Condition: at most 100 entries, whose sets may be and are short; a name of at most 1,000,000,000 bytes; a level of at most 1000.
-/
namespace Go.Proofs.YtllogmokadcfmaaGreat.Trail
open Go Go.RowKit Go.Lib Go.Proofs.YtllogmokadcfmaaGreat.Span Go.Proofs.YtllogmokadcfmaaGreat.Need Go.Proofs.YtllogmokadcfmaaGreat.Mani Go.Proofs.YtllogmokadcfmaaGreat.Grow Go.Proofs.YtllogmokadcfmaaGreat.Term Go.Proofs.YtllogmokadcfmaaGreat.Fact
open Go.Proofs.YtllogmokadcfmaaGreat.Label (runes fitL refFit_any)
open Go.Proofs.YtllogmokadcfmaaGreat.Pick (verOk verOk_iff refVFit_any)
set_option linter.unusedVariables false
theorem only_bothE {w0 w1 w2 : World} {g : Nat} (h : w0.grownBy w1 (some g)) (k : w1.grownBy w2 (some g)) : w0.grownBy w2 (some g) :=
  ⟨k.os.trans h.os, k.tape.trans h.tape, k.output.trans h.output, Nat.le_trans h.size k.size, fun i hi hne => (k.block i (Nat.lt_of_lt_of_le hi h.size) hne).trans (h.block i hi hne)⟩
theorem refOneE_any (p : Int) (h0 : 0 ≤ p) (h1 : p < 1000000000) (w : World) :
    Calls Tryz.prog 64 #[.int .i64 p] w fun e w' => ∃ A n c, e = .returned (.slice A n c) ∧ InS w' 0 A n (atS p) ∧ Below w.heap.size w w' := by
  have hrd := hide (spIn_of_reads (reads_one w p (p + 1) _ rfl))
  go_enter Tryz.func64, Tryz.ntmps64
  go_wp2
  go_ret
  exact ⟨some ⟨w.heap.size, 0, none⟩, 1, 1, rfl, ⟨(hrd.out).more (by simp), fun ad hA _ => .inr ⟨_, _, by injection hA with hA; subst hA; exact heap_alloc_new w _⟩⟩, (Below.refl _ _).alloc (Nat.le_refl _) _⟩
def errE : Nat → Int
  | 0 => 0
  | 1 => 1
  | 2 => 5
  | _ => 6
def TurnsE (w : World) (g B : Nat) (r : Nat × Tr) (e : Ending) (w' : World) : Prop :=
  e = .returned (.int .i64 (errE r.1)) ∧ ∃ A c, Blk w' g 34 #[.slice A r.2.l.length c, .int .i64 (r.2.level : Int)] ∧ EnR 87 w' B A r.2.l.length r.2.l ∧ w.grownBy w' (some g)
theorem turns_same {w w' : World} {g B n c k : Nat} {l : List Ent} {lv : Nat} {A : Option Addr} {e : Ending} (hx : Blk w g 34 #[.slice A n c, .int .i64 (lv : Int)]) (h : EnR 87 w B A n l) (he : e = .returned (.int .i64 (errE k))) (hb : Below w.heap.size w w') : TurnsE w g B (k, ⟨l, lv⟩) e w' := by
  have hlen := h.len
  refine ⟨he, A, c, ?_, ?_, only_of_below hb g⟩
  · show Blk w' g 34 #[.slice A l.length c, .int .i64 (lv : Int)]
    rw [hlen]; exact hx.below hb hx.lt
  · show EnR 87 w' B A l.length l
    rw [hlen]; exact h.on hb
set_option maxHeartbeats 8000000 in
set_option maxRecDepth 100000 in
theorem refDecideE_any (g B : Nat) (x : Tr) (A : Option Addr) (n c : Nat) (nm : ByteArray) (v : Int) (w : World) (hx : Blk w g 34 #[.slice A n c, .int .i64 (x.level : Int)]) (h : EnR 87 w B A n x.l) (hs : SmallE x.l) (hn : n ≤ 100) (hlv : x.level ≤ 1000) (hB : B ≤ g) (hnm : nm.size ≤ 1000000000) :
    Calls Tryz.prog 27 #[.pointer (some ⟨g, 0, none⟩), .string nm, .int .i64 v] w (TurnsE w g B (decideT x nm v)) := by
  obtain ⟨l, lv⟩ := x
  simp only [] at hx h hs hlv
  have hlen := h.len
  have hgw := hx.lt
  have HF := hide (fun (wx : World) => refFit_any nm wx hnm)
  have HV := hide (fun (wx : World) => refVFit_any v wx)
  have HK := hide (fun (wx : World) (hb : Below w.heap.size w wx) => refKnow_any B l A n c lv nm wx (h.on hb) hs hn)
  have hset := know_set l nm
  have hlenK := know_len hs nm
  have kn := know_name l nm
  have HR : Hid (decideT ⟨l, lv⟩ nm v = if (fitL (runes nm 0) && verOk v) = false then (1, ⟨l, lv⟩) else if has (knowL l nm).set v = false then (2, ⟨l, lv⟩) else (0, ⟨l ++ [⟨⟨nm, atS v, false⟩, lv + 1, -1⟩], lv + 1⟩)) := hide rfl
  generalize decideT ⟨l, lv⟩ nm v = R at *
  unfold TellsTm at HK
  obtain ⟨K, hK⟩ : ∃ K, K = knowL l nm := ⟨_, rfl⟩
  rw [← hK] at HK hset hlenK HR kn
  clear hK hs
  obtain ⟨kn', ks, kz⟩ := K
  simp only [] at HK hset hlenK HR kn
  subst kn
  have hkn : ks.length ≤ 1000000001 := by omega
  have HH := hide (fun (wx : World) (A3 : Option Addr) (n3 c3 : Nat) (h3 : SpOn wx A3 n3 ks) => refHasT_any kn' ks kz A3 n3 c3 wx h3 v true (by have := h3.1; omega) hset)
  unfold Tells at HH
  simp only [if_true] at HH
  clear hset hlenK hkn
  have x0 := (hx.cell 0).trans (show (#[.slice A n c, .int .i64 (lv : Int)] : Array Value)[0]? = some (.slice A n c) from rfl)
  have x1 := (hx.cell 1).trans (show (#[.slice A n c, .int .i64 (lv : Int)] : Array Value)[1]? = some (.int .i64 (lv : Int)) from rfl)
  have Hlen := hide hlen
  clear hlen
  cases f1 : fitL (runes kn' 0) with
  | false =>
    rw [f1] at HF HR
    have E : Hid (R = (1, ⟨l, lv⟩)) := hide (by rw [HR.out]; rfl)
    clear HR HK HH HV
    go_enter Tryz.func27, Tryz.ntmps27
    go_wp2_with (first
      | (go_at_call 59
         refine (HF.out _).mono ?_
         rintro e w1 ⟨rfl, hb1⟩))
    go_ret
    rw [E.out]
    exact turns_same hx h rfl hb1
  | true =>
    rw [f1] at HF HR
    cases f2 : verOk v with
    | false =>
      rw [f2] at HV HR
      have E : Hid (R = (1, ⟨l, lv⟩)) := hide (by rw [HR.out]; rfl)
      clear HR HK HH
      go_enter Tryz.func27, Tryz.ntmps27
      go_wp2_with (first
        | (go_at_call 61
           refine (HV.out _).mono ?_
           rintro e w2 ⟨rfl, rfl⟩)
        | (go_at_call 59
           refine (HF.out _).mono ?_
           rintro e w1 ⟨rfl, hb1⟩))
      go_ret
      rw [E.out]
      exact turns_same hx h rfl hb1
    | true =>
      obtain ⟨v0, v1⟩ := verOk_iff.1 f2
      rw [f2] at HV HR
      have HO := hide (fun (wx : World) => refOneE_any v v0 v1 wx)
      clear v0 v1 f1 f2
      cases f3 : has ks v with
      | false =>
        rw [f3] at HH HR
        have E : Hid (R = (2, ⟨l, lv⟩)) := hide (by rw [HR.out]; rfl)
        clear HR HO
        go_enter Tryz.func27, Tryz.ntmps27
        go_wp2_with (first
          | (go_at_call 62
             refine (HH.out _ _ _ _ h3.1).mono ?_
             rintro e w4 ⟨rfl, hb4⟩
             have hbw4 := hbw3.trans (hb4.mono hbw3.size))
          | (go_at_call 53
             refine (HK.out _ hb1).mono ?_
             rintro e w3 ⟨A3, n3, c3, rfl, h3, hb3⟩
             have hbw3 := hb1.trans (hb3.mono hb1.size))
          | (go_at_call 61
             refine (HV.out _).mono ?_
             rintro e w2 ⟨rfl, rfl⟩)
          | (go_at_call 59
             refine (HF.out _).mono ?_
             rintro e w1 ⟨rfl, hb1⟩
             have y0 := (hb1.cell (p := ⟨g, 0, none⟩) hgw).trans x0
             have y1 := (hb1.cell (p := ⟨g, 1, none⟩) hgw).trans x1))
        go_ret
        rw [E.out]
        exact turns_same hx h rfl hbw4
      | true =>
        rw [f3] at HH HR
        have E : Hid (R = (0, ⟨l ++ [⟨⟨kn', atS v, false⟩, lv + 1, -1⟩], lv + 1⟩)) := hide (by rw [HR.out]; rfl)
        clear HR
        have elv : Hid (((lv : Int) + 1) = ((lv + 1 : Nat) : Int)) := hide (by omega)
        go_enter Tryz.func27, Tryz.ntmps27
        go_wp2_with (first
          | (go_at_call 63
             refine (refPutE_any g B l A n c (lv + 1) ⟨kn', atS v, false⟩ A6 n6 c6 (-1) w6 bx6 hE6 (h6.any B) (by omega) hB).mono ?_
             rintro e w7 ⟨rfl, A7, c7, bx7, hE7, hg7⟩)
          | (go_at_call 64
             refine (HO.out _).mono ?_
             rintro e w6 ⟨A6, n6, c6, rfl, h6, hb6⟩
             have bx5 := (bx4.set_ 1 (.int .i64 ((lv : Int) + 1)))
             have hgs := only_setCell (p := ⟨g, 1, none⟩) (only_self w4 g) (.inl rfl) (.int .i64 ((lv : Int) + 1))
             have hE5 := (h.on hbw4).far (farT_blk bx4 (by decide)) (farT_blk bx4 (by decide)) (fun r e => by injection e with e; omega) hgs
             have bx6 : Blk w6 g 34 #[.slice A n c, .int .i64 ((lv + 1 : Nat) : Int)] := by rw [← elv.out]; exact bx5.below hb6 bx5.lt
             have hE6 := hE5.on hb6
             have hgw6 : w.grownBy w6 (some g) := only_bothE (only_bothE (only_of_below hbw4 _) hgs) (only_of_below hb6 _))
          | (go_at_call 62
             refine (HH.out _ _ _ _ h3.1).mono ?_
             rintro e w4 ⟨rfl, hb4⟩
             have hbw4 := hbw3.trans (hb4.mono hbw3.size)
             have bx4 := hx.below hbw4 hgw
             have z1 := (hbw4.cell (p := ⟨g, 1, none⟩) hgw).trans x1
             have f1 := bx4.frozen 1)
          | (go_at_call 53
             refine (HK.out _ hb1).mono ?_
             rintro e w3 ⟨A3, n3, c3, rfl, h3, hb3⟩
             have hbw3 := hb1.trans (hb3.mono hb1.size))
          | (go_at_call 61
             refine (HV.out _).mono ?_
             rintro e w2 ⟨rfl, rfl⟩)
          | (go_at_call 59
             refine (HF.out _).mono ?_
             rintro e w1 ⟨rfl, hb1⟩
             have y0 := (hb1.cell (p := ⟨g, 0, none⟩) hgw).trans x0
             have y1 := (hb1.cell (p := ⟨g, 1, none⟩) hgw).trans x1))
        go_ret
        rw [E.out]
        exact ⟨rfl, A7, c7, bx7, hE7, only_bothE hgw6 hg7⟩
end Go.Proofs.YtllogmokadcfmaaGreat.Trail
/-
  The contract of the document's own Derive: a term is derived, if it leaves something and tells something. Condition: at most 100 entries, whose sets may be and are short; a term's set is short; a name of at most 1,000,000,000 bytes.
-/
namespace Go.Proofs.YtllogmokadcfmaaGreat.Trail
open Go Go.RowKit Go.Lib Go.Proofs.YtllogmokadcfmaaGreat.Span Go.Proofs.YtllogmokadcfmaaGreat.Need Go.Proofs.YtllogmokadcfmaaGreat.Mani Go.Proofs.YtllogmokadcfmaaGreat.Grow Go.Proofs.YtllogmokadcfmaaGreat.Term Go.Proofs.YtllogmokadcfmaaGreat.Fact
open Go.Proofs.YtllogmokadcfmaaGreat.Label (runes fitL refFit_any)
set_option linter.unusedVariables false
theorem cell_blk {w : World} {g : Nat} {t : TypeId} {cs : Array Value} (h : Blk w g t cs) (i : Nat) (v : Value) (hv : cs[i]? = some v) : w.cell? ⟨g, i, none⟩ = some v := (h.cell i).trans hv
set_option maxHeartbeats 8000000 in
set_option maxRecDepth 100000 in
theorem refDeriveE_any (g B : Nat) (x : Tr) (A : Option Addr) (n c : Nat) (t : Tm) (A2 : Option Addr) (n2 c2 : Nat) (cz : Int) (w : World) (hx : Blk w g 34 #[.slice A n c, .int .i64 (x.level : Int)]) (h : EnR 87 w B A n x.l) (ht : InS w B A2 n2 t.set) (hs : SmallE x.l) (hn : n ≤ 100) (h60 : t.set.length ≤ 60) (hB : B ≤ g) (hnm : t.name.size ≤ 1000000000) :
    Calls Tryz.prog 28 #[.pointer (some ⟨g, 0, none⟩), .agg #[.string t.name, .slice A2 n2 c2, .bool t.none], .int .i64 cz] w (TurnsE w g B (deriveT x t cz)) := by
  obtain ⟨l, lv⟩ := x
  obtain ⟨tn, ts, tz⟩ := t
  simp only [] at hx h hs ht h60 hnm ⊢
  have hlen := h.len
  have hgw := hx.lt
  have hn2 := ht.1.1
  have hset := know_set l tn
  have hlenK := know_len hs tn
  have kn := know_name l tn
  have HC := hide (fun (wx : World) (hb : Below w.heap.size w wx) => refCheckT_any tn ts tz A2 n2 c2 wx (SpOn.on ht.1 hb) hnm (by omega))
  have HK := hide (fun (wx : World) (hb : Below w.heap.size w wx) => refKnow_any B l A n c lv tn wx (h.on hb) hs hn)
  have HR : Hid (deriveT ⟨l, lv⟩ ⟨tn, ts, tz⟩ cz = if (fitL (runes tn 0) && isSet (-1) ts) = false ∨ cz < 0 then (1, ⟨l, lv⟩) else if emptyT (meetT (knowL l tn) ⟨tn, ts, tz⟩) = true then (2, ⟨l, lv⟩) else if withinT (knowL l tn) ⟨tn, ts, tz⟩ = true then (3, ⟨l, lv⟩) else (0, ⟨l ++ [⟨⟨tn, ts, tz⟩, lv, cz⟩], lv⟩)) := hide rfl
  generalize deriveT ⟨l, lv⟩ ⟨tn, ts, tz⟩ cz = R at *
  unfold TellsTm at HK
  unfold Tells at HC
  obtain ⟨K, hK⟩ : ∃ K, K = knowL l tn := ⟨_, rfl⟩
  rw [← hK] at HK hset hlenK HR kn
  clear hK hs
  obtain ⟨kn', ks, kz⟩ := K
  simp only [] at HK hset hlenK HR kn
  subst kn
  have hbW := alloc_b (w := w) (.cells #[.string kn', .slice A2 n2 c2, .bool tz] 38)
  have bt := Blk.new w 38 #[.string kn', .slice A2 n2 c2, .bool tz]
  obtain ⟨W, hW⟩ : ∃ W, W = w.alloc (.cells #[.string kn', .slice A2 n2 c2, .bool tz] 38) := ⟨_, rfl⟩
  rw [← hW] at hbW bt
  have bx := hx.below hbW hgw
  have q0 := (bt.cell 0).trans (show (#[.string kn', .slice A2 n2 c2, .bool tz] : Array Value)[0]? = some (.string kn') from rfl)
  have q1 := (bt.cell 1).trans (show (#[.string kn', .slice A2 n2 c2, .bool tz] : Array Value)[1]? = some (.slice A2 n2 c2) from rfl)
  have q2 := (bt.cell 2).trans (show (#[.string kn', .slice A2 n2 c2, .bool tz] : Array Value)[2]? = some (.bool tz) from rfl)
  have hWs := hbW.size
  have Hlen := hide hlen
  clear hlen
  generalize f1 : (fitL (runes kn' 0) && isSet (-1) ts) = b1 at *
  cases b1 with
  | false =>
    have E : Hid (R = (1, ⟨l, lv⟩)) := hide (by rw [HR.out]; simp)
    clear HR HK
    go_enter Tryz.func28, Tryz.ntmps28
    go_upto_region 1 with fail
    try rw [← hW]
    clear hW
    go_wp2_with (first
      | (go_at_call 25
         refine (HC.out _ hbW).mono ?_
         rintro e w1 ⟨rfl, hb1⟩
         have hbw1 := hbW.trans (hb1.mono hWs)))
    go_ret
    rw [E.out]
    exact turns_same hx h rfl hbw1
  | true =>
    by_cases hcz : cz < 0
    · have E : Hid (R = (1, ⟨l, lv⟩)) := hide (by rw [HR.out]; simp [hcz])
      clear HR HK
      go_enter Tryz.func28, Tryz.ntmps28
      go_upto_region 1 with fail
      try rw [← hW]
      clear hW
      go_wp2_with (first
        | (go_at_call 25
           refine (HC.out _ hbW).mono ?_
           rintro e w1 ⟨rfl, hb1⟩
           have hbw1 := hbW.trans (hb1.mono hWs)))
      go_ret
      rw [E.out]
      exact turns_same hx h rfl hbw1
    · have HR2 : Hid (R = if emptyT (meetT ⟨kn', ks, kz⟩ ⟨kn', ts, tz⟩) = true then (2, ⟨l, lv⟩) else if withinT ⟨kn', ks, kz⟩ ⟨kn', ts, tz⟩ = true then (3, ⟨l, lv⟩) else (0, ⟨l ++ [⟨⟨kn', ts, tz⟩, lv, cz⟩], lv⟩)) := hide (by rw [HR.out]; simp [hcz])
      clear HR
      go_enter Tryz.func28, Tryz.ntmps28
      go_upto_region 1 with fail
      try rw [← hW]
      clear hW
      go_upto_region 3 with (first
        | (go_at_call 25
           refine (HC.out _ hbW).mono ?_
           rintro e w1 ⟨rfl, hb1⟩
           have hbw1 := hbW.trans (hb1.mono hWs)
           have bx1 := bx.below hb1 bx.lt
           have bt1 := bt.below hb1 bt.lt))
      have hw1s := hbw1.size
      clear q0 q1 q2 hb1 HC bx bt hbW
      have HE := hide (fun (wx : World) (h1 : Below w1.heap.size w1 wx) => (⟨((bx1.below h1 bx1.lt).cell 0).trans rfl, ((bx1.below h1 bx1.lt).cell 1).trans rfl, ((bt1.below h1 bt1.lt).cell 0).trans rfl⟩ :
          wx.cell? ⟨g, 0, none⟩ = some (.slice A n c) ∧ wx.cell? ⟨g, 1, none⟩ = some (.int .i64 (lv : Int)) ∧ wx.cell? ⟨w.heap.size, 0, none⟩ = some (.string kn')))
      have kd := (Below.refl w1.heap.size w1).drew
      have kr := Below.refl w1.heap.size w1
      have ka : Below w1.heap.size w1 (w1.alloc (.cells #[.string ⟨#[]⟩, .slice none 0 0, .bool false] 38)) := alloc_b _
      have kda : Below w1.heap.size w1 (w1.drew.alloc (.cells #[.string ⟨#[]⟩, .slice none 0 0, .bool false] 38)) := kd.alloc (Nat.le_refl _) _
      have kad : Below w1.heap.size w1 (w1.alloc (.cells #[.string ⟨#[]⟩, .slice none 0 0, .bool false] 38)).drew := ka.drew
      have hc0 := HE.out _ kr
      have hcd := HE.out _ kd
      go_region_held3 (fun w' => w'.cell? ⟨g, 0, none⟩ = some (.slice A n c) ∧ w'.cell? ⟨g, 1, none⟩ = some (.int .i64 (lv : Int)) ∧ w'.cell? ⟨w.heap.size, 0, none⟩ = some (.string kn')) (first | exact kc9 | exact kc9o | exact kc8a | exact kc8 | exact hcd | exact hc0 | exact HE.out _ kda | exact HE.out _ ka | go_keep)
        (first
          | (go_at_call 53
             refine (HK.out _ (hbw1.trans (kad.mono hw1s))).mono ?_
             rintro e w8 ⟨A8, n8, c8, rfl, h8, hb8⟩
             have hb8k := kad.trans (hb8.mono (by simp))
             have kc8 := HE.out _ hb8k
             have nb := (Blk.new w1 38 #[.string ⟨#[]⟩, .slice none 0 0, .bool false]).below (((Below.refl _ _).drew).trans hb8) (by simp)
             have n0 := nb.cell 0
             have n1 := nb.cell 1
             have n2' := nb.cell 2
             have nf0 := nb.frozen 0
             have nf1 := nb.frozen 1
             have nf2 := nb.frozen 2
             have hst := stored_row (u := .string kn') (v := .slice A8 n8 c8) (x := .bool kz) nb rfl
             have hb9 := three_b (g := w1.heap.size) hb8k (Nat.le_refl _) (.string kn') (.slice A8 n8 c8) (.bool kz)
             have hgs : World.grownBy (w8) (((w8.setCell ⟨w1.heap.size, 0, none⟩ (.string kn')).setCell ⟨w1.heap.size, 1, none⟩ (.slice A8 n8 c8)).setCell ⟨w1.heap.size, 2, none⟩ (.bool kz)) (some (w1.heap.size)) := only_setCell (p := ⟨w1.heap.size, 2, none⟩) (only_setCell (p := ⟨w1.heap.size, 1, none⟩) (only_setCell (p := ⟨w1.heap.size, 0, none⟩) (only_self (w8) (w1.heap.size)) (.inl rfl) _) (.inl rfl) _) (.inl rfl) _
             have hI9 := insFarB (h8) (farT_blk nb (by decide)) (fun r _ => Nat.zero_le _) hgs
             have hW9x : ∃ W9 : World, W9 = (((w8.setCell ⟨w1.heap.size, 0, none⟩ (.string kn')).setCell ⟨w1.heap.size, 1, none⟩ (.slice A8 n8 c8)).setCell ⟨w1.heap.size, 2, none⟩ (.bool kz)) := ⟨_, rfl⟩
             have kc9 := HE.out _ hb9)
          | (go_at_call 53
             refine (HK.out _ (hbw1.trans (kd.mono hw1s))).mono ?_
             rintro e w8 ⟨A8, n8, c8, rfl, h8, hb8⟩
             have hb8k := kd.trans (hb8.mono (by simp))
             have kc8 := HE.out _ hb8k
             have nb := Blk.new w8 38 #[.string ⟨#[]⟩, .slice none 0 0, .bool false]
             have n0 := nb.cell 0
             have n1 := nb.cell 1
             have n2' := nb.cell 2
             have nf0 := nb.frozen 0
             have nf1 := nb.frozen 1
             have nf2 := nb.frozen 2
             have hb8a := hb8k.alloc hb8k.size (.cells #[.string ⟨#[]⟩, .slice none 0 0, .bool false] 38)
             have kc8a := HE.out _ hb8a
             have kc9o := HE.out _ (three_b (g := w8.heap.size) hb8a hb8k.size (.string kn') (.slice A8 n8 c8) (.bool kz))
             have hgs := 0
             have hst := Blk.new w8 38 #[.string kn', .slice A8 n8 c8, .bool kz]
             have hb9 := hb8k.alloc hb8k.size (.cells #[.string kn', .slice A8 n8 c8, .bool kz] 38)
             have hI9 : InS (w8.alloc (.cells #[.string kn', .slice A8 n8 c8, .bool kz] 38)) 0 A8 n8 ks := h8.below (alloc_b _)
             have hW9x : ∃ W9 : World, W9 = w8.alloc (.cells #[.string kn', .slice A8 n8 c8, .bool kz] 38) := ⟨_, rfl⟩
             have kc9 := HE.out _ hb9))
      all_goals (
        obtain ⟨W9, hW9⟩ := hW9x
        rw [← hW9] at hst hb9 hI9
        try rw [← hW9]
        have hn8 : ks.length = n8 := h8.1.1
        have hHl := Hlen.out
        have hbw9 := hbw1.trans (hb9.mono hw1s)
        have bt9 := bt1.below hb9 bt1.lt
        have hw9s := hbw9.size
        have ht9 := ht.below hbw9
        have HM := hide (fun (wx : World) (hb : Below W9.heap.size W9 wx) => refMeetT_any kn' kn' ks ts kz tz A8 A2 n8 c8 n2 c2 wx (SpOn.on hI9.1 hb) (SpOn.on ht9.1 hb) (by omega) (by omega))
        have HW := hide (fun (wx : World) (hb : Below W9.heap.size W9 wx) => refWithinT_any kn' kn' ks ts kz tz A8 A2 n8 c8 n2 c2 wx (SpOn.on hI9.1 hb) (SpOn.on ht9.1 hb) (by omega) (by omega) hset)
        have HQ := hide (fun (wx : World) (Ax : Option Addr) (nx cx : Nat) (hx : SpOn wx Ax nx (meetT ⟨kn', ks, kz⟩ ⟨kn', ts, tz⟩).set) => refEmptyT_any (meetT ⟨kn', ks, kz⟩ ⟨kn', ts, tz⟩).name (meetT ⟨kn', ks, kz⟩ ⟨kn', ts, tz⟩).set (meetT ⟨kn', ks, kz⟩ ⟨kn', ts, tz⟩).none Ax nx cx wx hx)
        have eW : (decide (kn' = kn') && (decide (lessS ks ts = []) && (tz || !kz))) = withinT ⟨kn', ks, kz⟩ ⟨kn', ts, tz⟩ := rfl
        have eE : (!(meetT ⟨kn', ks, kz⟩ ⟨kn', ts, tz⟩).none && decide ((meetT ⟨kn', ks, kz⟩ ⟨kn', ts, tz⟩).set = [])) = emptyT (meetT ⟨kn', ks, kz⟩ ⟨kn', ts, tz⟩) := rfl
        rw [eW] at HW
        rw [eE] at HQ
        unfold MakesT at HM
        unfold Tells at HW HQ
        clear eW eE
        generalize emptyT (meetT ⟨kn', ks, kz⟩ ⟨kn', ts, tz⟩) = bE at *
        generalize meetT ⟨kn', ks, kz⟩ ⟨kn', ts, tz⟩ = M at *
        generalize withinT ⟨kn', ks, kz⟩ ⟨kn', ts, tz⟩ = bW at *
        have k0 := (hst.cell 0).trans (show (#[.string kn', .slice A8 n8 c8, .bool kz] : Array Value)[0]? = some (.string kn') from rfl)
        have k1 := (hst.cell 1).trans (show (#[.string kn', .slice A8 n8 c8, .bool kz] : Array Value)[1]? = some (.slice A8 n8 c8) from rfl)
        have k2 := (hst.cell 2).trans (show (#[.string kn', .slice A8 n8 c8, .bool kz] : Array Value)[2]? = some (.bool kz) from rfl)
        have q0 := (bt9.cell 0).trans (show (#[.string kn', .slice A2 n2 c2, .bool tz] : Array Value)[0]? = some (.string kn') from rfl)
        have q1 := (bt9.cell 1).trans (show (#[.string kn', .slice A2 n2 c2, .bool tz] : Array Value)[1]? = some (.slice A2 n2 c2) from rfl)
        have q2 := (bt9.cell 2).trans (show (#[.string kn', .slice A2 n2 c2, .bool tz] : Array Value)[2]? = some (.bool tz) from rfl)
        clear hb8 hb8k kc8 kc9 n0 n1 n2' nf0 nf1 nf2 hgs hW9 h8 hc0 hcd kd kr ka kda kad HE HK bt1 bx1 nb
        cases bE with
        | true =>
          have E : Hid (R = (2, ⟨l, lv⟩)) := hide (by rw [HR2.out]; rfl)
          clear HR2 HW
          go_wp2_with (first
            | (go_at_call 26
               refine (HQ.out _ _ _ _ (on_new h10)).mono ?_
               rintro e w11 ⟨rfl, hb11⟩
               have hb11x := hb10.trans (hb11.mono hb10.size)
               have hbw11 := hbw9.trans (hb11x.mono hw9s)
               have hst11 := hst.below hb11x hst.lt
               have bt11 := bt9.below hb11x bt9.lt
               have y0 := cell_blk hst11 0 (.string kn') rfl
               have y1 := cell_blk hst11 1 (.slice A8 n8 c8) rfl
               have y2 := cell_blk hst11 2 (.bool kz) rfl
               have z0 := cell_blk bt11 0 (.string kn') rfl
               have z1 := cell_blk bt11 1 (.slice A2 n2 c2) rfl
               have z2 := cell_blk bt11 2 (.bool tz) rfl)
            | (go_at_call 58
               refine (HM.out _ (Below.refl _ _)).mono ?_
               rintro e w10 ⟨Ax, nx, cx, rfl, h10, hb10⟩))
          go_ret
          rw [E.out]
          exact turns_same hx h rfl hbw11
        | false =>
          cases bW with
          | true =>
            have E : Hid (R = (3, ⟨l, lv⟩)) := hide (by rw [HR2.out]; rfl)
            clear HR2
            go_wp2_with (first
            | (go_at_call 54
               refine (HW.out _ hb11x).mono ?_
               rintro e w12 ⟨rfl, hb12⟩
               have hbw12 := hbw11.trans (hb12.mono hbw11.size)
               have bt12 := bt11.below hb12 bt11.lt
               have v0 := cell_blk bt12 0 (.string kn') rfl
               have v1 := cell_blk bt12 1 (.slice A2 n2 c2) rfl
               have v2 := cell_blk bt12 2 (.bool tz) rfl)
            | (go_at_call 26
               refine (HQ.out _ _ _ _ (on_new h10)).mono ?_
               rintro e w11 ⟨rfl, hb11⟩
               have hb11x := hb10.trans (hb11.mono hb10.size)
               have hbw11 := hbw9.trans (hb11x.mono hw9s)
               have hst11 := hst.below hb11x hst.lt
               have bt11 := bt9.below hb11x bt9.lt
               have y0 := cell_blk hst11 0 (.string kn') rfl
               have y1 := cell_blk hst11 1 (.slice A8 n8 c8) rfl
               have y2 := cell_blk hst11 2 (.bool kz) rfl
               have z0 := cell_blk bt11 0 (.string kn') rfl
               have z1 := cell_blk bt11 1 (.slice A2 n2 c2) rfl
               have z2 := cell_blk bt11 2 (.bool tz) rfl)
            | (go_at_call 58
               refine (HM.out _ (Below.refl _ _)).mono ?_
               rintro e w10 ⟨Ax, nx, cx, rfl, h10, hb10⟩))
            go_ret
            rw [E.out]
            exact turns_same hx h rfl hbw12
          | false =>
            have E : Hid (R = (0, ⟨l ++ [⟨⟨kn', ts, tz⟩, lv, cz⟩], lv⟩)) := hide (by rw [HR2.out]; rfl)
            clear HR2
            go_wp2_with (first
            | (go_at_call 63
               refine (refPutE_any g B l A n c lv ⟨kn', ts, tz⟩ A2 n2 c2 cz w12 (hx.below hbw12 hgw) (h.on hbw12) (ht.below hbw12) (by omega) hB).mono ?_
               rintro e w13 ⟨rfl, A7, c7, bx7, hE7, hg7⟩)
            | (go_at_call 54
               refine (HW.out _ hb11x).mono ?_
               rintro e w12 ⟨rfl, hb12⟩
               have hbw12 := hbw11.trans (hb12.mono hbw11.size)
               have bt12 := bt11.below hb12 bt11.lt
               have v0 := cell_blk bt12 0 (.string kn') rfl
               have v1 := cell_blk bt12 1 (.slice A2 n2 c2) rfl
               have v2 := cell_blk bt12 2 (.bool tz) rfl)
            | (go_at_call 26
               refine (HQ.out _ _ _ _ (on_new h10)).mono ?_
               rintro e w11 ⟨rfl, hb11⟩
               have hb11x := hb10.trans (hb11.mono hb10.size)
               have hbw11 := hbw9.trans (hb11x.mono hw9s)
               have hst11 := hst.below hb11x hst.lt
               have bt11 := bt9.below hb11x bt9.lt
               have y0 := cell_blk hst11 0 (.string kn') rfl
               have y1 := cell_blk hst11 1 (.slice A8 n8 c8) rfl
               have y2 := cell_blk hst11 2 (.bool kz) rfl
               have z0 := cell_blk bt11 0 (.string kn') rfl
               have z1 := cell_blk bt11 1 (.slice A2 n2 c2) rfl
               have z2 := cell_blk bt11 2 (.bool tz) rfl)
            | (go_at_call 58
               refine (HM.out _ (Below.refl _ _)).mono ?_
               rintro e w10 ⟨Ax, nx, cx, rfl, h10, hb10⟩))
            go_ret
            rw [E.out]
            exact ⟨rfl, A7, c7, bx7, hE7, only_bothE (only_of_below hbw12 g) hg7⟩)
end Go.Proofs.YtllogmokadcfmaaGreat.Trail
/-
  The contract of the document's own Picks: the versions that were decided on. Condition: at most 1000 entries; what was decided on is not empty.
-/
namespace Go.Proofs.YtllogmokadcfmaaGreat.Trail
open Go Go.RowKit Go.Lib Go.Proofs.YtllogmokadcfmaaGreat.Span Go.Proofs.YtllogmokadcfmaaGreat.Need Go.Proofs.YtllogmokadcfmaaGreat.Mani Go.Proofs.YtllogmokadcfmaaGreat.Grow Go.Proofs.YtllogmokadcfmaaGreat.Term
open Go.Proofs.YtllogmokadcfmaaGreat.Pick (Pk PkOn NewP MakesP putP refPutP_any)
set_option linter.unusedVariables false
def npR (L : List Pk) : Rel := fun w v => ∃ A n c, v = .slice A n c ∧ NewP w 0 A n c L
theorem npR_stable (L : List Pk) : ∀ w w' v, Below w.heap.size w w' → npR L w v → npR L w' v := fun _ _ _ hb ⟨A, n, c, hv, h⟩ => ⟨A, n, c, hv, h.below hb⟩
set_option maxHeartbeats 8000000 in
set_option maxRecDepth 100000 in
theorem refPicksE_any (B : Nat) (l : List Ent) (A : Option Addr) (n c lv : Nat) (w : World) (h : EnR 87 w B A n l) (hn : n ≤ 1000) (hs : ∀ e ∈ l, e.cause < 0 → e.term.set ≠ []) :
    Calls Tryz.prog 51 #[.agg #[.slice A n c, .int .i64 (lv : Int)]] w (MakesP w (picksT l)) := by
  have hlen := h.len
  obtain ⟨R, hR⟩ : ∃ R, R = picksT l := ⟨_, rfl⟩
  rw [← hR]
  have HR := hide hR
  have Hlen := hide hlen
  clear hR hlen
  have hbW := alloc_b (w := w) (.cells #[.slice A n c, .int .i64 (lv : Int)] 34)
  have bx := Blk.new w 34 #[.slice A n c, .int .i64 (lv : Int)]
  have hnil : NewP (w.alloc (.cells #[.slice A n c, .int .i64 (lv : Int)] 34)) 0 none 0 0 [] := NewP.nil_ _ _
  unfold MakesP
  go_enter Tryz.func51, Tryz.ntmps51
  go_wp2
  go_loopw [3, 4] (fun u v wr => ∃ (i m : Nat) (Ao : Option Addr) (co : Nat), i ≤ n ∧ u = .slice Ao m co ∧ v = .int .i64 (i : Int) ∧ m ≤ i ∧ NewP wr 0 Ao m co (picksT (l.take i)) ∧ Blk wr w.heap.size 34 #[.slice A n c, .int .i64 (lv : Int)] ∧ Below w.heap.size w wr) (fun _ v _ => n - (RowKit.intOf v).toNat)
  case atStart => exact ⟨0, 0, none, 0, by omega, rfl, rfl, by omega, hnil, bx, hbW⟩
  case round =>
    obtain ⟨i, m, Ao, co, hi, rfl, rfl, hmi, hN, bx1, hb⟩ := hrel
    clear hnil bx hbW
    have x0 := cell_blk bx1 0 (.slice A n c) rfl
    have hbs := hb.size
    by_cases hlt : i < n
    · obtain ⟨ad, q, A', n', c', rfl, hbl, hxq, hq, e0, e1, e2, e3, e4⟩ := EnR.at_ (h.on hb) hlt
      have hpk := picks_take hxq
      have hne := hs q (List.mem_of_getElem? hxq)
      obtain ⟨⟨qn, qs, qz⟩, ql, qc⟩ := q
      simp only [pickE] at hq e0 e1 e2 e3 e4 hpk hne
      clear hxq
      by_cases hqc : qc < 0
      · rw [if_pos hqc] at hpk
        have hne2 := hne hqc
        obtain ⟨s, r, rfl⟩ := List.exists_cons_of_ne_nil hne2
        obtain ⟨ad', hA', hbl', hc'⟩ := hq.1.2 (by have := hq.1.1; simp at this; omega)
        subst hA'
        have hn' : 0 < n' := by have := hq.1.1; simp at this; omega
        have d0 := (hc' 0 s rfl).1
        simp only [Nat.zero_mul, List.headD_cons] at d0 hpk
        have Hpk := hide hpk
        have HP := hide (fun (wx : World) (hbx : Below wr.heap.size wr wx) => refPutP_any (picksT (l.take i)) qn s.1 Ao m co wx ((hN.below hbx).2.2.2) (by omega))
        unfold MakesP at HP
        have HLn := hide (Pick.putP_len (picksT (l.take i)) (qn, s.1))
        generalize putP (picksT (l.take i)) (qn, s.1) = L at *
        clear hne hne2 hpk
        go_upto_region 6 with fail
        have r0 := cell_regE x0 bx1.lt
        have s0 := cell_regE e0 (by simp only [block_of_add]; exact hbl)
        have s1 := cell_regE e1 (by simp only [block_of_add]; exact hbl)
        have ea : ad'.add 0 = ad' := by unfold Addr.add; simp
        rw [ea] at d0
        have t0 := cell_regE d0 hbl'
        clear ea
        refine wp_region_grow [(38, npR L)] [38]
          (by kernel_rfl) (by kernel_rfl) rfl (by kernel_rfl) (by kernel_rfl) ⟨npR_stable _, trivial⟩ ?_
        repeat (first
          | (refine lex_quiet rfl rfl rfl (fun K hK => ?_); unfold Reg; go_big_quiet_op; refine hK _ ?_; clear hK K)
          | (refine lex_rel rfl rfl (fun w' hb9 hK => ?_) (fun vv w' hb9 hv => ?_)
             · unfold grows
               go_simp
               go_at_call 77
               refine (HP.out w' hb9).mono ?_
               rintro e w8 ⟨A8, n8, c8, rfl, h8, hb8⟩
               exact ⟨_, rfl, hb8, A8, n8, c8, rfl, h8⟩
             obtain ⟨A6, n6, c6, rfl, hN6⟩ := hv
             simp only [Act.put, List.setIfInBounds_toArray, List.set_cons_zero, List.set_cons_succ]))
        refine lex_nil (fun w9 hC9 hall => ?_)
        have hb9 := reg_iff.1 hC9
        obtain ⟨A4, n4, c4, e4', hN4⟩ := hall 19 _ 38 _ rfl rfl rfl (slice_d _ _ _)
        have e5 : Value.slice A6 n6 c6 = .slice A4 n4 c4 := e4'
        injection e5 with e6 e7 e8
        subst e6 e7 e8
        have hm6 : n6 ≤ i + 1 := by
          have h1 := hN4.1
          have h2 := Nat.le_trans (HLn.out) (Nat.succ_le_succ (Nat.le_of_eq hN.1.symm))
          omega
        have hbn := hb.trans (hb9.mono hbs)
        have bx9 := bx1.below hb9 bx1.lt
        rw [← Hpk.out] at hN4
        go_wp2
        go_roundw
        case rel => exact ⟨i + 1, n6, A6, c6, by omega, rfl, by go_num, hm6, hN4, bx9, hbn⟩
        case measure => simp [RowKit.intOf]; omega
      · rw [if_neg hqc] at hpk
        rw [← hpk] at hN
        clear hpk hne
        go_wp2
        go_roundw
        case rel => exact ⟨i + 1, m, Ao, co, by omega, rfl, by go_num, by omega, hN, bx1, hb⟩
        case measure => simp [RowKit.intOf]; omega
    · have hi2 : i = n := by omega
      subst hi2
      rw [List.take_of_length_le (by have := Hlen.out; omega), ← HR.out] at hN
      go_wp2
      go_ret
      exact ⟨_, _, _, rfl, hN, hb⟩
end Go.Proofs.YtllogmokadcfmaaGreat.Trail
