/-
  Some texts of this claim, one behind the other: TrailStep, TrailSame, TrailPlaysW. What each proves, and its condition, stands at its head.
-/
import Derived.Test.YtllogmokadcfmaaGreatZB37
import Derived.Test.YtllogmokadcfmaaGreatZB38
import Derived.Test.YtllogmokadcfmaaGreatZB40
import Derived.Deep.RegionHeld3
import Derived.Test.YtllogmokadcfmaaGreatZB26
import Derived.Test.YtllogmokadcfmaaGreatZB36
import Derived.Test.YtllogmokadcfmaaGreatZB30
import Derived.Deep.RegionWith
/-
  The document's own trail behind a pointer, and the law's Step: what is done to both is told alike, if the program's trail tells what it has to. Condition: that premise.
-/
namespace Go.Proofs.YtllogmokadcfmaaGreat.Trail
open Go Go.RowKit Go.Lib Go.Proofs.YtllogmokadcfmaaGreat.Span Go.Proofs.YtllogmokadcfmaaGreat.Need Go.Proofs.YtllogmokadcfmaaGreat.Mani Go.Proofs.YtllogmokadcfmaaGreat.Grow Go.Proofs.YtllogmokadcfmaaGreat.Pick Go.Proofs.YtllogmokadcfmaaGreat.Term Go.Proofs.YtllogmokadcfmaaGreat.Clash
set_option linter.unusedVariables false
set_option linter.unusedSimpArgs false
theorem err_same (k : Nat) : errE k = errT k := by
  match k with
  | 0 => rfl
  | 1 => rfl
  | 2 => rfl
  | k + 3 => rfl
def DocT (w : World) (g B : Nat) (x : Tr) : Prop := ∃ A c, Blk w g 34 #[.slice A x.l.length c, .int .i64 (x.level : Int)] ∧ EnR 87 w B A x.l.length x.l ∧ B ≤ g
section
variable {TP : World → Nat → Value → Tr → Prop} {TS : TypeId → Prop} {w w' : World} {g B n : Nat} {A : Option Addr} {x : Tr} {l : List Ent} {T : TypeId}
theorem EnR.keeps (h : EnR T w B A n l) (k : Keeps TS B w w') (hT : ¬ TS T) (hS : ¬ TS 56) : EnR T w' B A n l := by
  obtain ⟨rs, g1, g2, g3⟩ := h
  have blk : ∀ ad, A = some ad → 0 < n → w'.heap[ad.block]? = w.heap[ad.block]? := fun ad hA hn => by
    obtain ⟨_, cur, m, h5⟩ := g3 ad hA hn
    exact k.typed _ _ _ _ h5 hT
  refine ⟨rs, ⟨g1.1, fun hn => ?_⟩, g2.mono fun _ _ _ hs => k.ins hs hS (Nat.le_refl _), fun ad hA hn => ?_⟩
  · obtain ⟨ad, hA, hlt, hc⟩ := g1.2 hn
    exact ⟨ad, hA, Nat.lt_of_lt_of_le hlt k.below.size, fun j u hu => (World.cell?_of_block (by rw [block_of_add]; exact blk ad hA hn)).trans (hc j u hu)⟩
  · obtain ⟨h0, cur, m, h5⟩ := g3 ad hA hn
    exact ⟨h0, cur, m, (blk ad hA hn).trans h5⟩
theorem DocT.keeps (h : DocT w g B x) (H : ProgP TP TS) (k : Keeps TS B w w') : DocT w' g B x := by
  obtain ⟨A, c, h1, h2, h3⟩ := h
  exact ⟨A, c, k.blk h1 H.refX, EnR.keeps h2 k H.refE H.span, h3⟩
theorem DocT.below (h : DocT w g B x) (hb : Below w.heap.size w w') : DocT w' g B x := by
  obtain ⟨A, c, h1, h2, h3⟩ := h
  exact ⟨A, c, h1.below hb h1.lt, h2.on hb, h3⟩
theorem DocT.tp {v : Value} {y : Tr} (h : DocT w g B x) (H : ProgP TP TS) (hT : TP w B v y) (hg : w.grownBy w' (some g)) : TP w' B v y := by
  obtain ⟨A, c, h1, _⟩ := h
  exact H.far hT hg h1 H.refX (by decide)
theorem docDecide (nm : ByteArray) (v : Int) (h : DocT w g B x) (f : FewT x) (hnm : nm.size ≤ 1000000000) :
    Calls Tryz.prog 27 #[.pointer (some ⟨g, 0, none⟩), .string nm, .int .i64 v] w fun e w' => e = .returned (.int .i64 (errT (decideT x nm v).1)) ∧ DocT w' g B (decideT x nm v).2 ∧ w.grownBy w' (some g) := by
  obtain ⟨A, c, h1, h2, h3⟩ := h
  refine (refDecideE_any g B x A x.l.length c nm v w h1 h2 f.small (by have := f.len; omega) (by have := f.level; omega) h3 hnm).mono ?_
  rintro e w' ⟨he, A', c', k1, k2, k3⟩
  exact ⟨by rw [he, err_same], ⟨A', c', k1, k2, h3⟩, k3⟩
theorem docDerive (t : Tm) (A2 : Option Addr) (n2 c2 : Nat) (cz : Int) (h : DocT w g B x) (f : FewT x) (ht : InS w B A2 n2 t.set) (h60 : t.set.length ≤ 60) (hnm : t.name.size ≤ 1000000000) :
    Calls Tryz.prog 28 #[.pointer (some ⟨g, 0, none⟩), .agg #[.string t.name, .slice A2 n2 c2, .bool t.none], .int .i64 cz] w fun e w' => e = .returned (.int .i64 (errT (deriveT x t cz).1)) ∧ DocT w' g B (deriveT x t cz).2 ∧ w.grownBy w' (some g) := by
  obtain ⟨A, c, h1, h2, h3⟩ := h
  refine (refDeriveE_any g B x A x.l.length c t A2 n2 c2 cz w h1 h2 ht f.small (by have := f.len; omega) h60 h3 hnm).mono ?_
  rintro e w' ⟨he, A', c', k1, k2, k3⟩
  exact ⟨by rw [he, err_same], ⟨A', c', k1, k2, h3⟩, k3⟩
theorem docBack (k : Int) (h : DocT w g B x) (f : FewT x) :
    Calls Tryz.prog 29 #[.pointer (some ⟨g, 0, none⟩), .int .i64 k] w fun e w' => e = .returned (.tuple #[]) ∧ DocT w' g B (backT x k) ∧ w.grownBy w' (some g) := by
  obtain ⟨A, c, h1, h2, h3⟩ := h
  refine (refBackE_any g B x A x.l.length c k w h1 h2 (by have := f.len; omega) h3).mono ?_
  rintro e w' ⟨he, A', c', k1, k2, k3⟩
  exact ⟨he, ⟨A', c', k1, k2, h3⟩, k3⟩
set_option maxHeartbeats 8000000 in
set_option maxRecDepth 100000 in
theorem stepTr_any (H : ProgP TP TS) (pp : Option Addr) (d : Dt) (A' : Option Addr) (n' c' : Nat) (hT : TP w B (.pointer pp) x) (hD : DocT w g B x) (hf : FewT x) (hr : Rise x) (hin : InS w B A' n' d.term.set) (hnc : n' ≤ c') (h60 : d.term.set.length ≤ 60) (hnm : d.term.name.size ≤ 1000000000) :
    Calls Tryz.prog 9 #[.pointer pp, .pointer (some ⟨g, 0, none⟩), .agg #[.int .i64 d.kind, .int .i64 d.ver, .int .i64 d.n, .string d.term.name, .slice A' n' c', .bool d.term.none]] w fun e w' => e = .returned (.bool true) ∧ TP w' B (.pointer pp) (doT x d).2 ∧ DocT w' g B (doT x d).2 ∧ Below B w w' := by
  obtain ⟨kd, vr, dn, tn, ts, tz⟩ := d
  simp only [] at hin h60 hnm ⊢
  have hBw := H.size hT
  have hgB : B ≤ g := hD.choose_spec.choose_spec.2.2
  have hgw : g < w.heap.size := hD.choose_spec.choose_spec.1.lt
  have HH := hide H
  clear H
  obtain ⟨W0, hW0⟩ : ∃ W0, W0 = w.alloc (.cells #[.int .i64 kd, .int .i64 vr, .int .i64 dn, .string tn, .slice A' n' c', .bool tz] 40) := ⟨_, rfl⟩
  obtain ⟨gz, hgz⟩ : ∃ g, g = w.heap.size := ⟨_, rfl⟩
  have hbW0 : Below w.heap.size w W0 := by rw [hW0]; exact (Below.refl _ _).alloc (Nat.le_refl _) _
  have hb0 : Below B w W0 := hbW0.mono hBw
  have bS : Blk W0 gz 40 #[.int .i64 kd, .int .i64 vr, .int .i64 dn, .string tn, .slice A' n' c', .bool tz] := by rw [hW0, hgz]; exact Blk.new w _ _
  have hgne : some gz ≠ some g := fun e => by injection e with e; omega
  have hT0 := HH.out.below hT hbW0
  have hD0 := hD.below hbW0
  have hin0 := hin.below hbW0
  have hB0 : B ≤ W0.heap.size := Nat.le_trans hBw hbW0.size
  clear hT hD hin hBw hgB hgw hbW0
  have p0 := bS.cell 0
  by_cases k0 : kd = 0
  · subst k0
    have HR := hide (show doT x ⟨0, vr, dn, ⟨tn, ts, tz⟩⟩ = decideT x tn vr from rfl)
    rw [HR.out]
    have kd0 : Below W0.heap.size W0 W0.drew := (Below.refl _ _).drew
    have HB := hide (HH.out.decide tn vr (HH.out.below hT0 kd0) hf hnm)
    unfold MovesT at HB
    have HE := hide (fun (wx : World) (hDx : DocT wx g B x) => docDecide tn vr hDx hf hnm)
    generalize decideT x tn vr = R at *
    obtain ⟨er, x'⟩ := R
    simp only [] at HB HE ⊢
    have ee : ((errT er) == (errT er)) = true := beq_self_eq_true _
    have hDd := hD0.below kd0
    clear HR
    have HCz := hide (fun (wx : World) (hx : Blk wx gz 40 #[.int .i64 0, .int .i64 vr, .int .i64 dn, .string tn, .slice A' n' c', .bool tz]) => (show wx.cell? ⟨gz, 3, none⟩ = some (.string tn) ∧ wx.cell? ⟨gz, 1, none⟩ = some (.int .i64 vr) from ⟨hx.cell 3, hx.cell 1⟩))
    have bSd := bS.below kd0 bS.lt
    obtain ⟨o3, o1⟩ := HCz.out _ bS
    go_enter Tryz.func9, Tryz.ntmps9
    go_upto_region 1 with fail
    try rw [← hW0]
    try rw [← hgz]
    clear hW0 hgz
    go_upto_region 2 with fail
    go_region_held3 (fun w' => w'.cell? ⟨gz, 3, none⟩ = some (.string tn) ∧ w'.cell? ⟨gz, 1, none⟩ = some (.int .i64 vr)) (first | exact HCz.out _ bS7 | exact HCz.out _ bS6 | exact HCz.out _ bSd | go_keep)
      (first
        | (go_at_call 27
           refine (HE.out _ hD6).mono ?_
           rintro e w7 ⟨rfl, hD7, hg7⟩
           have hT7 := hD6.tp HH.out hT6 hg7
           have bS7 := bS6.grown hg7 hgne)
        | (go_at_call 13
           refine HB.out.mono ?_
           rintro e w6 ⟨rfl, hT6, hK6⟩
           have hD6 := hDd.keeps HH.out hK6
           have bS6 := hK6.blk bSd HH.out.does))
    all_goals
      go_wp2
      go_ret
      have hbd : Below B w W0.drew := hb0.trans (kd0.mono hB0)
      have hg6 : B ≤ w6.heap.size := Nat.le_trans hB0 (Nat.le_trans kd0.size hK6.below.size)
      have hgB : B ≤ g := hD7.choose_spec.choose_spec.2.2
      exact ⟨by simp, hT7, hD7, (hbd.trans hK6.below).grown hg7 hg6 (fun k hk => by injection hk with hk; omega)⟩
  have e0 : (kd == 0) = false := beq_eq_false_iff_ne.2 k0
  by_cases k1 : kd = 1
  · subst k1
    clear k0 e0
    have HR := hide (show doT x ⟨1, vr, dn, ⟨tn, ts, tz⟩⟩ = deriveT x ⟨tn, ts, tz⟩ dn from rfl)
    rw [HR.out]
    have kd0 : Below W0.heap.size W0 W0.drew := (Below.refl _ _).drew
    have HB := hide (HH.out.derive ⟨tn, ts, tz⟩ A' n' c' dn (HH.out.below hT0 kd0) hf (hin0.below kd0) hnc h60 hnm)
    unfold MovesT at HB
    have HE := hide (fun (wx : World) (hDx : DocT wx g B x) (hIn : InS wx B A' n' ts) => docDerive ⟨tn, ts, tz⟩ A' n' c' dn hDx hf hIn h60 hnm)
    generalize deriveT x ⟨tn, ts, tz⟩ dn = R at *
    obtain ⟨er, x'⟩ := R
    simp only [] at HB HE ⊢
    have ee : ((errT er) == (errT er)) = true := beq_self_eq_true _
    have hDd := hD0.below kd0
    have hind := hin0.below kd0
    clear HR
    have HCz := hide (fun (wx : World) (hx : Blk wx gz 40 #[.int .i64 1, .int .i64 vr, .int .i64 dn, .string tn, .slice A' n' c', .bool tz]) => (show wx.cell? ⟨gz, 3, none⟩ = some (.string tn) ∧ wx.cell? ⟨gz, 4, none⟩ = some (.slice A' n' c') ∧ wx.cell? ⟨gz, 5, none⟩ = some (.bool tz) ∧ wx.cell? ⟨gz, 2, none⟩ = some (.int .i64 dn) from ⟨hx.cell 3, hx.cell 4, hx.cell 5, hx.cell 2⟩))
    have bSd := bS.below kd0 bS.lt
    obtain ⟨o3, o4, o5, o2⟩ := HCz.out _ bS
    go_enter Tryz.func9, Tryz.ntmps9
    go_upto_region 1 with fail
    try rw [← hW0]
    try rw [← hgz]
    clear hW0 hgz
    go_upto_region 4 with fail
    go_region_held3 (fun w' => w'.cell? ⟨gz, 3, none⟩ = some (.string tn) ∧ w'.cell? ⟨gz, 4, none⟩ = some (.slice A' n' c') ∧ w'.cell? ⟨gz, 5, none⟩ = some (.bool tz) ∧ w'.cell? ⟨gz, 2, none⟩ = some (.int .i64 dn)) (first | exact HCz.out _ bS7 | exact HCz.out _ bS6 | exact HCz.out _ bSd | go_keep)
      (first
        | (go_at_call 28
           refine (HE.out _ hD6 hin6).mono ?_
           rintro e w7 ⟨rfl, hD7, hg7⟩
           have hT7 := hD6.tp HH.out hT6 hg7
           have bS7 := bS6.grown hg7 hgne)
        | (go_at_call 14
           refine HB.out.mono ?_
           rintro e w6 ⟨rfl, hT6, hK6⟩
           have hD6 := hDd.keeps HH.out hK6
           have bS6 := hK6.blk bSd HH.out.does
           have hin6 := hK6.ins hind HH.out.span (Nat.le_refl _)))
    all_goals
      go_wp2
      go_ret
      have hbd : Below B w W0.drew := hb0.trans (kd0.mono hB0)
      have hg6 : B ≤ w6.heap.size := Nat.le_trans hB0 (Nat.le_trans kd0.size hK6.below.size)
      have hgB : B ≤ g := hD7.choose_spec.choose_spec.2.2
      exact ⟨by simp, hT7, hD7, (hbd.trans hK6.below).grown hg7 hg6 (fun k hk => by injection hk with hk; omega)⟩
  have e1 : (kd == 1) = false := beq_eq_false_iff_ne.2 k1
  have HR := hide (show doT x ⟨kd, vr, dn, ⟨tn, ts, tz⟩⟩ = (0, backT x dn) from by unfold doT; rw [if_neg k0, if_neg k1])
  rw [HR.out]
  have HB := hide (HH.out.back dn hT0 hf hr)
  have HE := hide (fun (wx : World) (hDx : DocT wx g B x) => docBack dn hDx hf)
  have p2 := bS.cell 2
  clear HR k0 k1
  go_enter Tryz.func9, Tryz.ntmps9
  go_upto_region 1 with fail
  try rw [← hW0]
  try rw [← hgz]
  clear hW0 hgz
  go_wp2_with (first
    | (go_at_call 29
       refine (HE.out _ hD6).mono ?_
       rintro e w7 ⟨rfl, hD7, hg7⟩
       have hT7 := hD6.tp HH.out hT6 hg7)
    | (go_at_call 12
       refine HB.out.mono ?_
       rintro e w6 ⟨rfl, hT6, hK6⟩
       have hD6 := hD0.keeps HH.out hK6
       have bS6 := hK6.blk bS HH.out.does
       have p2 := bS6.cell 2))
  go_ret
  have hg6 : B ≤ w6.heap.size := Nat.le_trans hB0 hK6.below.size
  have hgB : B ≤ g := hD7.choose_spec.choose_spec.2.2
  exact ⟨rfl, hT7, hD7, (hb0.trans hK6.below).grown hg7 hg6 (fun k hk => by injection hk with hk; omega)⟩
end
end Go.Proofs.YtllogmokadcfmaaGreat.Trail
/-
  The law's Same: a trail of the program's is the document's, if the program's trail tells what it has to. Condition: that premise.
-/
namespace Go.Proofs.YtllogmokadcfmaaGreat.Trail
open Go Go.RowKit Go.Lib Go.Proofs.YtllogmokadcfmaaGreat.Span Go.Proofs.YtllogmokadcfmaaGreat.Need Go.Proofs.YtllogmokadcfmaaGreat.Mani Go.Proofs.YtllogmokadcfmaaGreat.Grow Go.Proofs.YtllogmokadcfmaaGreat.Pick Go.Proofs.YtllogmokadcfmaaGreat.Term Go.Proofs.YtllogmokadcfmaaGreat.Clash
set_option linter.unusedVariables false
set_option linter.unusedSimpArgs false
def CauseOk (x : Tr) : Prop := ∀ e ∈ x.l, e.cause < 0 → e.term.set ≠ [] ∧ e.term.name.size ≤ 1000000000
def NamesOk (x : Tr) : Prop := ∀ e ∈ x.l, e.term.name.size ≤ 1000000000
theorem cause_do {x : Tr} (h : CauseOk x) (d : Dt) (hnm : d.term.name.size ≤ 1000000000) : CauseOk (doT x d).2 := by
  have key : ∀ (t : Tm) (k : Nat) (c : Int), (c < 0 → t.set ≠ [] ∧ t.name.size ≤ 1000000000) → CauseOk (putT { x with level := k } t c) := fun t k c hc e he hl => by
    rcases List.mem_append.1 he with he | he
    · exact h e he hl
    · rw [List.mem_singleton.1 he] at hl ⊢; exact hc hl
  unfold doT
  split
  · unfold decideT
    split
    · exact h
    · split
      · exact h
      · exact key _ _ _ (fun _ => ⟨by simp [Fact.atS], hnm⟩)
  · split
    · unfold deriveT
      split
      · exact h
      · rename_i h1
        split
        · exact h
        · split
          · exact h
          · exact key _ x.level _ (fun hc => absurd (.inr hc) h1)
    · unfold backT
      split
      · exact h
      · exact fun e he hl => h e (List.mem_filter.1 he).1 hl
theorem names_do {x : Tr} (h : NamesOk x) (d : Dt) (hnm : d.term.name.size ≤ 1000000000) : NamesOk (doT x d).2 := by
  have key : ∀ (t : Tm) (k : Nat) (c : Int), t.name.size ≤ 1000000000 → NamesOk (putT { x with level := k } t c) := fun t k c hc e he => by
    rcases List.mem_append.1 he with he | he
    · exact h e he
    · rw [List.mem_singleton.1 he]; exact hc
  unfold doT
  split
  · unfold decideT
    split
    · exact h
    · split
      · exact h
      · exact key _ _ _ hnm
  · split
    · unfold deriveT
      split
      · exact h
      · split
        · exact h
        · split
          · exact h
          · exact key _ x.level _ hnm
    · unfold backT
      split
      · exact h
      · exact fun e he => h e (List.mem_filter.1 he).1
section
variable {TP : World → Nat → Value → Tr → Prop} {TS : TypeId → Prop} {B : Nat} {x : Tr}
set_option maxHeartbeats 16000000 in
set_option maxRecDepth 100000 in
theorem sameTr_any (H : ProgP TP TS) (pp A : Option Addr) (n c : Nat) (w : World) (hT : TP w B (.pointer pp) x) (hD : EnR 87 w B A n x.l) (hf : FewT x) (hc : CauseOk x) (hnm : NamesOk x) :
    Calls Tryz.prog 19 #[.pointer pp, .agg #[.slice A n c, .int .i64 (x.level : Int)]] w fun e w' => e = .returned (.bool true) ∧ Below w.heap.size w w' := by
  have hBw := H.size hT
  have hlen := hD.len
  have hn60 : n ≤ 60 := by have := hf.len; omega
  have HH := hide H
  clear H
  obtain ⟨W0, hW0⟩ : ∃ W0, W0 = w.alloc (.cells #[.slice A n c, .int .i64 (x.level : Int)] 34) := ⟨_, rfl⟩
  obtain ⟨gz, hgz⟩ : ∃ g, g = w.heap.size := ⟨_, rfl⟩
  have hbW0 : Below w.heap.size w W0 := by rw [hW0]; exact (Below.refl _ _).alloc (Nat.le_refl _) _
  have bX : Blk W0 gz 34 #[.slice A n c, .int .i64 (x.level : Int)] := by rw [hW0, hgz]; exact Blk.new w _ _
  have hBW : B ≤ W0.heap.size := Nat.le_trans hBw hbW0.size
  have HB := hide (fun (wx : World) (hx : Below W0.heap.size W0 wx) => (show wx.cell? ⟨gz, 0, none⟩ = some (.slice A n c) ∧ wx.cell? ⟨gz, 1, none⟩ = some (.int .i64 (x.level : Int)) from ⟨(bX.below hx bX.lt).cell 0, (bX.below hx bX.lt).cell 1⟩))
  have HT := hide (fun (wx : World) (hx : Below W0.heap.size W0 wx) => HH.out.below hT (hbW0.trans (hx.mono hbW0.size)))
  have HE := hide (fun (wx : World) (hx : Below W0.heap.size W0 wx) => (show EnR 87 wx B A n x.l from hD.on (hbW0.trans (hx.mono hbW0.size))))
  have HLv := hide (fun (wx : World) (hx : Below W0.heap.size W0 wx) => HH.out.level (HT.out wx hx) hf)
  have HLn := hide (fun (wx : World) (hx : Below W0.heap.size W0 wx) => HH.out.len (HT.out wx hx) hf)
  rw [hlen] at HLn
  have HPk := hide (fun (wx : World) (hx : Below W0.heap.size W0 wx) => HH.out.picks (HT.out wx hx) hf hc)
  have HPd := hide (fun (wx : World) (hx : Below W0.heap.size W0 wx) => refPicksE_any B x.l A n c x.level wx (HE.out wx hx) (by omega) (fun e he hl => (hc e he hl).1))
  unfold MakesP at HPk HPd
  have hpl : (picksT x.l).length ≤ 1000000001 ∨ True := .inr trivial
  have HPs := hide (fun (wx : World) (A1 A2 : Option Addr) (n1 c1 n2 c2 : Nat) (h1 : PkOn wx A1 n1 (picksT x.l)) (h2 : PkOn wx A2 n2 (picksT x.l)) (hs1 : n1 ≤ 1000000001) (hs2 : n2 ≤ 1000000001) => refSameP_any (c := c1) (c' := c2) wx h1 h2 hs1 hs2)
  rw [decide_eq_true rfl] at HPs
  have HPn := hide (show (picksT x.l).length ≤ 1000000001 from by
    have key : ∀ (l : List Ent) (o : List Pk), (l.foldl pickE o).length ≤ o.length + l.length := by
      intro l
      induction l with
      | nil => intro o; exact Nat.le_refl _
      | cons e r ih =>
        intro o
        rw [List.foldl_cons]
        have h1 := ih (pickE o e)
        have h2 : (pickE o e).length ≤ o.length + 1 := by
          unfold pickE
          split
          · exact putP_len _ _
          · omega
        simp only [List.length_cons]
        omega
    have := key x.l []
    unfold picksT
    simp only [List.length_nil] at this
    omega)
  have HKn := hide (fun (nm : ByteArray) (hq : nm.size ≤ 1000000000) (wx : World) (hx : Below W0.heap.size W0 wx) => HH.out.know nm (HT.out wx hx) hf hq)
  have HKd := hide (fun (nm : ByteArray) (wx : World) (hx : Below W0.heap.size W0 wx) => refKnow_any B x.l A n c x.level nm wx (HE.out wx hx) hf.small (by omega))
  unfold TellsB at HKn
  unfold TellsTm at HKd
  have HAt := hide (fun (i : Int) (wx : World) (hx : Below W0.heap.size W0 wx) => HH.out.at_ i (HT.out wx hx) hf)
  unfold TellsEnt at HAt
  rw [hlen] at HAt
  have HSm := hide (fun (t : Tm) (ht : t.set.length ≤ 10000) (wx : World) (A1 A2 : Option Addr) (n1 c1 n2 c2 : Nat) (h1 : SpOn wx A1 n1 t.set) (h2 : SpOn wx A2 n2 t.set) => (show Calls Tryz.prog 21 #[.agg #[.string t.name, .slice A1 n1 c1, .bool t.none], .agg #[.string t.name, .slice A2 n2 c2, .bool t.none]] wx fun e w' => e = .returned (.bool true) ∧ Below wx.heap.size wx w' from by
    have := refSameT_any t.name t.name t.set t.set t.none t.none A1 A2 n1 c1 n2 c2 wx h1 h2 (by have := h1.len; omega) (by have := h2.len; omega)
    unfold Tells at this
    rw [show (decide (t.name = t.name) && (t.none == t.none && decide (t.set = t.set))) = true from by simp] at this
    exact this))
  have HKl := hide (fun (nm : ByteArray) => (show (knowL x.l nm).set.length ≤ 10000 from by have := know_len hf.small nm; have := hf.len; omega))
  have Hsm := hide (fun (q : Ent) (hq : q ∈ x.l) => (show q.term.set.length ≤ 60 ∧ q.term.name.size ≤ 1000000000 from ⟨(hf.small q hq).2, hnm q hq⟩))
  have xx : ((x.level : Int) != (x.level : Int)) = false := bne_self_eq_false _
  have nn : ((n : Int) != (n : Int)) = false := bne_self_eq_false _
  have kd : Below W0.heap.size W0 W0.drew := (Below.refl _ _).drew
  obtain ⟨b0, b1⟩ := HB.out _ (Below.refl _ _)
  clear hT hD hc hnm hf bX HT hpl hBw
  go_enter Tryz.func19, Tryz.ntmps19
  go_upto_region 1 with fail
  try rw [← hW0]
  try rw [← hgz]
  clear hW0 hgz
  go_region_held3 (fun w' => w'.cell? ⟨gz, 0, none⟩ = some (.slice A n c) ∧ w'.cell? ⟨gz, 1, none⟩ = some (.int .i64 (x.level : Int))) (first | exact HB.out _ k5 | exact HB.out _ k4 | exact HB.out _ k3 | exact HB.out _ k2 | exact HB.out _ k1 | exact HB.out _ kd | go_keep)
    (first
      | (go_at_call 50
         refine (HPs.out _ _ _ _ _ _ _ (h3.on hb4) h4 hs3 hs4).mono ?_
         rintro e w5 ⟨rfl, kq, rfl⟩
         have k5 : Below W0.heap.size W0 (w4.drewN kq) := below_drewN k4 kq)
      | (go_at_call 51
         refine (HPd.out _ k3).mono ?_
         rintro e w4 ⟨A4, n4, c4, rfl, hN4, hb4⟩
         have h4 := hN4.2.2.2
         have hs4 : n4 ≤ 1000000001 := by have := hN4.1; have := HPn.out; omega
         clear hN4
         have k4 : Below W0.heap.size W0 w4 := k3.trans (hb4.mono k3.size))
      | (go_at_call 16
         refine (HPk.out _ k2).mono ?_
         rintro e w3 ⟨A3, n3, c3, rfl, hN3, hb3⟩
         have h3 := hN3.2.2.2
         have hs3 : n3 ≤ 1000000001 := by have := hN3.1; have := HPn.out; omega
         clear hN3
         have k3 : Below W0.heap.size W0 w3 := k2.trans (hb3.mono k2.size))
      | (go_at_call 10
         refine (HLv.out _ k1).mono ?_
         rintro e w2 ⟨rfl, hb2⟩
         have k2 : Below W0.heap.size W0 w2 := k1.trans (hb2.mono k1.size))
      | (go_at_call 11
         refine (HLn.out _ kd).mono ?_
         rintro e w1 ⟨rfl, hb1⟩
         have k1 : Below W0.heap.size W0 w1 := kd.trans (hb1.mono kd.size)))
  all_goals
    go_wp2
    go_loopw [5] (fun v wr => ∃ i : Nat, i ≤ n ∧ v = .int .i64 (i : Int) ∧ Below W0.heap.size W0 wr) (fun v _ => n - (RowKit.intOf v).toNat)
    case atStart => exact ⟨0, by omega, rfl, k5⟩
    case round =>
      obtain ⟨i, hi, rfl, hb⟩ := hrel
      have hbs := hb.size
      obtain ⟨b0, b1⟩ := HB.out wr hb
      by_cases hlt : i < n
      · obtain ⟨ad, q, A', n', c', rfl, hbl, hx, hsp, p0, p1, p2, p3, p4⟩ := EnR.at_ (HE.out wr hb) hlt
        obtain ⟨hq60, hqn⟩ := Hsm.out q (List.mem_of_getElem? hx)
        have hdec : decide ((0 : Int) ≤ (i : Int) ∧ (i : Int) < (n : Int)) = true := decide_eq_true ⟨by omega, by omega⟩
        have HA := hide (HAt.out (i : Int) wr hb)
        rw [hdec] at HA
        have Hx := hide hx
        obtain ⟨⟨tn, ts, tz⟩, lv, cz⟩ := q
        simp only [] at hq60 hqn hsp p0 p1 p2 p3 p4
        have hi1 : (0 : Int) ≤ (i : Int) := by omega
        have hi2 : (i : Int) < (n : Int) := by omega
        clear hx hdec
        go_upto_region 7 with (first
          | (go_at_call 52
             refine HA.out.mono ?_
             rintro e w4 ⟨A9, n9, c9, nm9, z9, lv9, cz9, rfl, hb4, hin⟩
             obtain ⟨q', hx', rfl, rfl, rfl, rfl, h9⟩ := hin ⟨by omega, by omega⟩
             rw [Int.toNat_natCast, Hx.out] at hx'
             injection hx' with hx'
             subst hx'
             simp only [] at h9
             clear hin))
        obtain ⟨g4, hg4⟩ : ∃ g, g = w4.heap.size := ⟨_, rfl⟩
        obtain ⟨W4, hW4⟩ : ∃ W, W = w4.alloc (.cells #[.string tn, .slice A9 n9 c9, .bool tz, .int .i64 (lv : Int), .int .i64 cz] 71) := ⟨_, rfl⟩
        have hA4 : Below w4.heap.size w4 W4 := by rw [hW4]; exact (Below.refl _ _).alloc (Nat.le_refl _) _
        have hr4 : Below wr.heap.size wr W4 := hb4.trans (hA4.mono hb4.size)
        have z4 : Blk W4 g4 71 #[.string tn, .slice A9 n9 c9, .bool tz, .int .i64 (lv : Int), .int .i64 cz] := by rw [hW4, hg4]; exact Blk.new _ _ _
        have i9 := h9.below hA4
        have i8 := hsp.below hr4
        have hbW := hb.trans (hr4.mono hbs)
        have hbWs := hbW.size
        try rw [← hg4]
        try rw [← hW4]
        have hblk : ∀ j, (⟨(ad.add (i * 5)).block, j, none⟩ : Addr).block < wr.heap.size := fun j => by simp only [block_of_add]; exact hbl
        have HCz := hide (fun (wx : World) (hx : Below W4.heap.size W4 wx) => (show wx.cell? ⟨g4, 0, none⟩ = some (.string tn) ∧ wx.cell? ⟨g4, 1, none⟩ = some (.slice A9 n9 c9) ∧ wx.cell? ⟨g4, 2, none⟩ = some (.bool tz) ∧ wx.cell? ⟨g4, 3, none⟩ = some (.int .i64 (lv : Int)) ∧ wx.cell? ⟨g4, 4, none⟩ = some (.int .i64 cz) ∧ wx.cell? ⟨gz, 0, none⟩ = some (.slice (some ad) n c) ∧ wx.cell? ⟨gz, 1, none⟩ = some (.int .i64 (x.level : Int)) ∧ wx.cell? (ad.add (i * 5)) = some (.string tn) ∧ wx.cell? ⟨(ad.add (i * 5)).block, (ad.add (i * 5)).off + 1, none⟩ = some (.slice A' n' c') ∧ wx.cell? ⟨(ad.add (i * 5)).block, (ad.add (i * 5)).off + 2, none⟩ = some (.bool tz) ∧ wx.cell? ⟨(ad.add (i * 5)).block, (ad.add (i * 5)).off + 3, none⟩ = some (.int .i64 (lv : Int)) ∧ wx.cell? ⟨(ad.add (i * 5)).block, (ad.add (i * 5)).off + 4, none⟩ = some (.int .i64 cz) from
          ⟨(z4.below hx z4.lt).cell 0, (z4.below hx z4.lt).cell 1, (z4.below hx z4.lt).cell 2, (z4.below hx z4.lt).cell 3, (z4.below hx z4.lt).cell 4, (HB.out wx (hbW.trans (hx.mono hbWs))).1, (HB.out wx (hbW.trans (hx.mono hbWs))).2,
           ((hr4.trans (hx.mono hr4.size)).cell (p := ad.add (i * 5)) (by rw [block_of_add]; exact hbl)).trans p0, ((hr4.trans (hx.mono hr4.size)).cell (hblk _)).trans p1, ((hr4.trans (hx.mono hr4.size)).cell (hblk _)).trans p2, ((hr4.trans (hx.mono hr4.size)).cell (hblk _)).trans p3, ((hr4.trans (hx.mono hr4.size)).cell (hblk _)).trans p4⟩))
        have HS1 := hide (fun (wx : World) (hx : Below W4.heap.size W4 wx) => HSm.out ⟨tn, ts, tz⟩ (by show ts.length ≤ 10000; omega) wx A9 A' n9 c9 n' c' (i9.below hx).1 (i8.below hx).1)
        have HK1 := hide (fun (wx : World) (hx : Below W4.heap.size W4 wx) => HKn.out tn hqn wx (hbW.trans (hx.mono hbWs)))
        have HK2 := hide (fun (wx : World) (hx : Below W4.heap.size W4 wx) => HKd.out tn wx (hbW.trans (hx.mono hbWs)))
        have HS2 := hide (fun (wx : World) (A1 A2 : Option Addr) (n1 c1 n2 c2 : Nat) (h1 : SpOn wx A1 n1 (knowL x.l tn).set) (h2 : SpOn wx A2 n2 (knowL x.l tn).set) => HSm.out (knowL x.l tn) (HKl.out tn) wx A1 A2 n1 c1 n2 c2 h1 h2)
        generalize knowL x.l tn = T9 at *
        have kd4 : Below W4.heap.size W4 W4.drew := (Below.refl _ _).drew
        have lvv : ((lv : Int) != (lv : Int)) = false := bne_self_eq_false _
        have czz : (cz != cz) = false := bne_self_eq_false _
        obtain ⟨e0, e1, e2, e3, e4, f0, f1, o0, o1, o2, o3, o4⟩ := HCz.out W4 (Below.refl _ _)
        clear hg4 hW4 hA4 hr4 hb4 h9 hsp z4 i9 i8 p0 p1 p2 p3 p4 b0 b1 HA Hx hblk HSm HKn HKd HKl Hsm HAt
        go_region_held3 (fun w' => w'.cell? ⟨g4, 0, none⟩ = some (.string tn) ∧ w'.cell? ⟨g4, 1, none⟩ = some (.slice A9 n9 c9) ∧ w'.cell? ⟨g4, 2, none⟩ = some (.bool tz) ∧ w'.cell? ⟨g4, 3, none⟩ = some (.int .i64 (lv : Int)) ∧ w'.cell? ⟨g4, 4, none⟩ = some (.int .i64 cz) ∧ w'.cell? ⟨gz, 0, none⟩ = some (.slice (some ad) n c) ∧ w'.cell? ⟨gz, 1, none⟩ = some (.int .i64 (x.level : Int)) ∧ w'.cell? (ad.add (i * 5)) = some (.string tn) ∧ w'.cell? ⟨(ad.add (i * 5)).block, (ad.add (i * 5)).off + 1, none⟩ = some (.slice A' n' c') ∧ w'.cell? ⟨(ad.add (i * 5)).block, (ad.add (i * 5)).off + 2, none⟩ = some (.bool tz) ∧ w'.cell? ⟨(ad.add (i * 5)).block, (ad.add (i * 5)).off + 3, none⟩ = some (.int .i64 (lv : Int)) ∧ w'.cell? ⟨(ad.add (i * 5)).block, (ad.add (i * 5)).off + 4, none⟩ = some (.int .i64 cz)) (first | exact HCz.out _ q8 | exact HCz.out _ q7 | exact HCz.out _ q6 | exact HCz.out _ q5 | exact HCz.out _ kd4 | go_keep)
          (first
            | (go_at_call 21
               refine (HS2.out _ _ _ _ _ _ _ (h6.below hb7).1 h7.1).mono ?_
               rintro e w8 ⟨rfl, hb8⟩
               have q8 : Below W4.heap.size W4 w8 := q7.trans (hb8.mono q7.size))
            | (go_at_call 53
               refine (HK2.out _ q6).mono ?_
               rintro e w7 ⟨A7, n7, c7, rfl, h7, hb7⟩
               have q7 : Below W4.heap.size W4 w7 := q6.trans (hb7.mono q6.size))
            | (go_at_call 18
               refine (HK1.out _ q5).mono ?_
               rintro e w6 ⟨A6, n6, c6, rfl, h6, hb6⟩
               have q6 : Below W4.heap.size W4 w6 := q5.trans (hb6.mono q5.size))
            | (go_at_call 21
               refine (HS1.out _ kd4).mono ?_
               rintro e w5 ⟨rfl, hb5⟩
               have q5 : Below W4.heap.size W4 w5 := kd4.trans (hb5.mono kd4.size)))
        all_goals
          go_wp2
          go_roundw
          case rel => exact ⟨i + 1, by omega, by go_num, hbW.trans (q8.mono hbWs)⟩
          case measure => simp [RowKit.intOf]; omega
      · have HA1 := hide (HAt.out (-1) wr hb)
        rw [decide_eq_false (show ¬ ((0 : Int) ≤ -1 ∧ (-1 : Int) < (n : Int)) by omega)] at HA1
        have HA2 := hide (fun (wx : World) (hx : Below W0.heap.size W0 wx) => HAt.out (n : Int) wx hx)
        rw [decide_eq_false (show ¬ ((0 : Int) ≤ (n : Int) ∧ (n : Int) < (n : Int)) by omega)] at HA2
        have HBa := hide (fun (wx : World) (hx : Below W0.heap.size W0 wx) => (HB.out wx hx).1)
        clear HAt HSm HKn HKd HKl Hsm HE HLv HLn HPk HPd HPs HPn HB
        go_wp2_with (first
          | (go_at_call 52
             refine (HA2.out _ k10).mono ?_
             rintro e w10 ⟨A8, n8, c8, nm8, z8, lv8, cz8, rfl, hb10, _⟩
             have k11 := k10.trans (hb10.mono k10.size))
          | (go_at_call 52
             refine HA1.out.mono ?_
             rintro e w9 ⟨A7, n7, c7, nm7, z7, lv7, cz7, rfl, hb9, _⟩
             have k9 := hb.trans (hb9.mono hbs)
             have k10 := k9.alloc k9.size (.cells #[.string nm7, .slice A7 n7 c7, .bool z7, .int .i64 lv7, .int .i64 cz7] 71)
             have b0 := HBa.out _ k10))
        go_ret
        exact ⟨rfl, hbW0.trans ((k11.alloc k11.size _).mono hbW0.size)⟩
end
end Go.Proofs.YtllogmokadcfmaaGreat.Trail
/-
  The walk of TrailPlays, if the program's trail tells what it has to, of a trail and of none. Condition: these premises.
-/
namespace Go.Proofs.YtllogmokadcfmaaGreat.Trail
open Go Go.RowKit Go.Lib Go.Proofs.YtllogmokadcfmaaGreat.Span Go.Proofs.YtllogmokadcfmaaGreat.Need Go.Proofs.YtllogmokadcfmaaGreat.Mani Go.Proofs.YtllogmokadcfmaaGreat.Grow Go.Proofs.YtllogmokadcfmaaGreat.Pick Go.Proofs.YtllogmokadcfmaaGreat.Term Go.Proofs.YtllogmokadcfmaaGreat.Clash
set_option linter.unusedVariables false
set_option linter.unusedSimpArgs false
structure PlaysI (x : Tr) (i : Nat) : Prop where
  small : SmallE x.l
  rise : Rise x
  len : x.l.length ≤ i
  level : x.level ≤ i
  cause : CauseOk x
  names : NamesOk x
theorem PlaysI.few {x : Tr} {i : Nat} (h : PlaysI x i) (hi : i ≤ 60) : FewT x := ⟨h.small, Nat.le_trans h.len hi, Nat.le_trans h.level hi⟩
theorem plays_new : PlaysI ⟨[], 0⟩ 0 := ⟨fun e he => by (cases he), Rise.new, Nat.le_refl _, Nat.le_refl _, fun e he => by (cases he), fun e he => by (cases he)⟩
theorem plays_do {x : Tr} {i : Nat} (h : PlaysI x i) (d : Dt) (h60 : d.term.set.length ≤ 60) (hnm : d.term.name.size ≤ 1000000000) : PlaysI (doT x d).2 (i + 1) := by
  have h5 := do_len x d
  have h6 := h.len
  have h7 := h.level
  refine ⟨?_, ?_, by omega, by omega, cause_do h.cause d hnm, names_do h.names d hnm⟩
  · unfold doT
    split
    · exact h.small.decide _ _
    · split
      · exact h.small.derive _ _ h60
      · exact h.small.back _
  · unfold doT
    split
    · exact h.rise.decide _ _
    · split
      · exact h.rise.derive _ _
      · exact h.rise.back _
section
variable {TP : World → Nat → Value → Tr → Prop} {TS : TypeId → Prop}
set_option maxHeartbeats 16000000 in
set_option maxRecDepth 100000 in
theorem tplays_walk (H : ProgP TP TS) (Z : NilT) (l : List Dt) (c : List Tm) (qn : Int) (qm : ByteArray) (A0 A1 : Option Addr) (n0 k0 n1 k1 : Nat) (w : World) (h : DoOn w A0 n0 l) (h' : TmOn w A1 n1 c) (hn : n0 ≤ 9223372036854775807) (hn' : n1 ≤ 9223372036854775807)
    (hl : ∀ d ∈ l, d.term.name.size ≤ 9223372036854775807 ∧ d.term.set.length ≤ 9223372036854775807) (hl' : ∀ t ∈ c, t.name.size ≤ 9223372036854775807 ∧ t.set.length ≤ 9223372036854775807) (hqm : qm.size ≤ 9223372036854775807) :
    Calls Tryz.prog 3 #[.slice A0 n0 k0, .slice A1 n1 k1, .agg #[.int .i64 qn, .string qm]] w fun e w' => e = .returned (.bool true) ∧ Below w.heap.size w w' := by
  obtain ⟨W0, hW0⟩ : ∃ W0, W0 = w.alloc (.cells #[.int .i64 qn, .string qm] 25) := ⟨_, rfl⟩
  obtain ⟨gq, hgq⟩ : ∃ g, g = w.heap.size := ⟨_, rfl⟩
  have hbW0 : Below w.heap.size w W0 := by rw [hW0]; exact (Below.refl _ _).alloc (Nat.le_refl _) _
  have bQ : Blk W0 gq 25 #[.int .i64 qn, .string qm] := by rw [hW0, hgq]; exact Blk.new w _ _
  have HQ := hide (fun (wx : World) (hx : Below W0.heap.size W0 wx) => (show wx.cell? ⟨gq, 1, none⟩ = some (.string qm) from (bQ.below hx bQ.lt).cell 1))
  have HQ0 := hide (fun (wx : World) (hx : Below W0.heap.size W0 wx) => (show wx.cell? ⟨gq, 0, none⟩ = some (.int .i64 qn) from (bQ.below hx bQ.lt).cell 0))
  replace h : DoOn W0 A0 n0 l := h.on hbW0
  replace h' : TmOn W0 A1 n1 c := h'.on hbW0
  have HH := hide H
  have HZ := hide Z
  have HA := hide (fun wx => awakeTr_any H.toProgT wx)
  have HL := hide (fun (wx : World) (hx : Below W0.heap.size W0 wx) => largeD_any l A0 n0 k0 wx (h.on hx) hn hl)
  have HL2 := hide (fun (wx : World) (hx : Below W0.heap.size W0 wx) => largeC_any c A1 n1 k1 wx (h'.on hx) hn' hl')
  clear H Z bQ
  cases g1 : largeD l with
  | true =>
    rw [g1] at HL
    clear h h' hl hl' HL2
    go_enter Tryz.func3, Tryz.ntmps3
    go_upto_region 1 with fail
    try rw [← hW0]
    try rw [← hgq]
    clear hW0 hgq
    go_wp2_with (first
      | (go_at_call 7
         refine (HA.out _).mono ?_
         rintro e w9 ⟨rfl, hb9⟩)
      | (go_at_call 4
         refine (HL.out _ (Below.refl _ _)).mono ?_
         rintro e w1 ⟨rfl, hb1⟩
         have q1 := HQ.out _ hb1))
    go_ret
    exact ⟨rfl, hbW0.trans ((hb1.trans (hb9.mono hb1.size)).mono hbW0.size)⟩
  | false =>
  rw [g1] at HL
  cases g2 : largeC c with
  | true =>
    rw [g2] at HL2
    clear h h' hl hl'
    go_enter Tryz.func3, Tryz.ntmps3
    go_upto_region 1 with fail
    try rw [← hW0]
    try rw [← hgq]
    clear hW0 hgq
    go_wp2_with (first
      | (go_at_call 7
         refine (HA.out _).mono ?_
         rintro e w9 ⟨rfl, hb9⟩)
      | (go_at_call 5
         refine (HL2.out _ hb1).mono ?_
         rintro e w2 ⟨rfl, hb2x⟩
         have hb2 := hb1.trans (hb2x.mono hb1.size)
         have q2 := HQ.out _ hb2)
      | (go_at_call 4
         refine (HL.out _ (Below.refl _ _)).mono ?_
         rintro e w1 ⟨rfl, hb1⟩
         have q1 := HQ.out _ hb1))
    go_ret
    exact ⟨rfl, hbW0.trans ((hb2.trans (hb9.mono hb2.size)).mono hbW0.size)⟩
  | false =>
  rw [g2] at HL2
  obtain ⟨hc40, hc60, _, hcf⟩ := smallC g2
  have h1len := h'.len
  have HK := hide (fun (wx : World) (hx : Below W0.heap.size W0 wx) => refCheckC_any c A1 n1 k1 wx (h'.on hx) hcf.fine (by omega))
  cases g3 : okC c with
  | false =>
    rw [g3] at HK
    clear h h' hl hl' hc60 hcf hc40
    go_enter Tryz.func3, Tryz.ntmps3
    go_upto_region 1 with fail
    try rw [← hW0]
    try rw [← hgq]
    clear hW0 hgq
    go_wp2_with (first
      | (go_at_call 7
         refine (HA.out _).mono ?_
         rintro e w9 ⟨rfl, hb9⟩)
      | (go_at_call 6
         refine (HK.out _ hb2).mono ?_
         rintro e w3 ⟨rfl, hb3x⟩
         have hb3 := hb2.trans (hb3x.mono hb2.size)
         have q3 := HQ.out _ hb3)
      | (go_at_call 5
         refine (HL2.out _ hb1).mono ?_
         rintro e w2 ⟨rfl, hb2x⟩
         have hb2 := hb1.trans (hb2x.mono hb1.size)
         have q2 := HQ.out _ hb2)
      | (go_at_call 4
         refine (HL.out _ (Below.refl _ _)).mono ?_
         rintro e w1 ⟨rfl, hb1⟩
         have q1 := HQ.out _ hb1))
    go_ret
    exact ⟨rfl, hbW0.trans ((hb3.trans (hb9.mono hb3.size)).mono hbW0.size)⟩
  | true =>
  rw [g3] at HK
  by_cases g4 : 200 < qm.size
  · have g5 : (200 : Int) < (qm.size : Int) := by omega
    clear h h' hl hl' hc60 hcf hc40
    go_enter Tryz.func3, Tryz.ntmps3
    go_upto_region 1 with fail
    try rw [← hW0]
    try rw [← hgq]
    clear hW0 hgq
    go_wp2_with (first
      | (go_at_call 7
         refine (HA.out _).mono ?_
         rintro e w9 ⟨rfl, hb9⟩)
      | (go_at_call 6
         refine (HK.out _ hb2).mono ?_
         rintro e w3 ⟨rfl, hb3x⟩
         have hb3 := hb2.trans (hb3x.mono hb2.size)
         have q3 := HQ.out _ hb3)
      | (go_at_call 5
         refine (HL2.out _ hb1).mono ?_
         rintro e w2 ⟨rfl, hb2x⟩
         have hb2 := hb1.trans (hb2x.mono hb1.size)
         have q2 := HQ.out _ hb2)
      | (go_at_call 4
         refine (HL.out _ (Below.refl _ _)).mono ?_
         rintro e w1 ⟨rfl, hb1⟩
         have q1 := HQ.out _ hb1))
    go_ret
    exact ⟨rfl, hbW0.trans ((hb3.trans (hb9.mono hb3.size)).mono hbW0.size)⟩
  have g5 : ¬ (200 : Int) < (qm.size : Int) := by omega
  have hqm9 : qm.size ≤ 1000000000 := by omega
  obtain ⟨hs60, hsd⟩ := smallD g1
  have h0len := h.len
  have hn60 : n0 ≤ 60 := by omega
  have hn40 : n1 ≤ 40 := by omega
  have hcs : ∀ t ∈ c, t.name.size ≤ 1000000000 ∧ isSet (-1) t.set = true ∧ t.set.length ≤ 60 := fun t ht => ⟨by have := (hc60 t ht).2; omega, okT_set ((okC_iff.1 g3).2 t ht).1, (hc60 t ht).1⟩
  have Hsd := hide hsd
  have Hcs := hide hcs
  have HDo := hide h
  have HCo := hide h'
  clear h h' hl hl' hc60 hcf hc40 hsd hcs g1 g2 g3 hs60
  go_enter Tryz.func3, Tryz.ntmps3
  go_upto_region 1 with fail
  try rw [← hW0]
  try rw [← hgq]
  clear hW0 hgq
  go_upto_region 4 with (first
    | (go_at_call 8
       refine (HH.out.new _).mono ?_
       rintro e w4 ⟨v, rfl, hT4, hb4x⟩
       obtain ⟨pp, rfl⟩ := HH.out.ptr hT4)
    | (go_at_call 6
       refine (HK.out _ hb2).mono ?_
       rintro e w3 ⟨rfl, hb3x⟩
       have hb3 := hb2.trans (hb3x.mono hb2.size)
       have q3 := HQ.out _ hb3)
    | (go_at_call 5
       refine (HL2.out _ hb1).mono ?_
       rintro e w2 ⟨rfl, hb2x⟩
       have hb2 := hb1.trans (hb2x.mono hb1.size)
       have q2 := HQ.out _ hb2)
    | (go_at_call 4
       refine (HL.out _ (Below.refl _ _)).mono ?_
       rintro e w1 ⟨rfl, hb1⟩
       have q1 := HQ.out _ hb1))
  obtain ⟨g, hg⟩ : ∃ g, g = w4.heap.size := ⟨_, rfl⟩
  obtain ⟨W5, hW5⟩ : ∃ W, W = w4.alloc (.cells #[.slice none 0 0, .int .i64 0] 34) := ⟨_, rfl⟩
  have hA5 : Below w4.heap.size w4 W5 := by rw [hW5]; exact (Below.refl _ _).alloc (Nat.le_refl _) _
  have hT5 := HH.out.below hT4 hA5
  have hD5 : DocT W5 g w3.heap.size ⟨[], 0⟩ := ⟨none, 0, by rw [hW5, hg]; exact Blk.new _ _ _, EnR.nil_ _ _ _ _, by rw [hg]; exact hb4x.size⟩
  have hb5 : Below w3.heap.size w3 W5 := hb4x.trans (hA5.mono hb4x.size)
  have hb3s := hb3.size
  clear hT4 hA5 hb4x HL HL2 HK hb1 hb2 hb2x hb3x q1 q2 q3
  go_upto_region 5 with fail
  try rw [← hg]
  try rw [← hW5]
  clear hg hW5
  go_wp2
  go_loopw [9] (fun p wr => ∃ (i : Nat) (x : Tr), i ≤ n0 ∧ p = .int .i64 (i : Int) ∧ TP wr w3.heap.size (.pointer pp) x ∧ DocT wr g w3.heap.size x ∧ Hid (PlaysI x i) ∧ Below w3.heap.size w3 wr) (fun p _ => n0 - (RowKit.intOf p).toNat)
  case atStart => exact ⟨0, ⟨[], 0⟩, by omega, rfl, hT5, hD5, hide plays_new, hb5⟩
  case round =>
    obtain ⟨i, x, hi, rfl, hT, hD, hI, hb⟩ := hrel
    clear hT5 hD5 hb5
    have hbs := hb.size
    have hfew : FewT x := hI.out.few (by omega)
    by_cases hlt : i < n0
    · obtain ⟨ad, q, A', n', c', rfl, hbl, hx, hnc, hsp, b0, b1, b2, b3, b4, b5⟩ := DoOn.at_ (HDo.out.on hb3) hlt
      obtain ⟨hq60, hq200⟩ := Hsd.out q (List.mem_of_getElem? hx)
      have hblk : ∀ j, (⟨(ad.add (i * 6)).block, j, none⟩ : Addr).block < w3.heap.size := fun j => by simp only [block_of_add]; exact hbl
      have HCz := hide (fun (wx : World) (hx : Below w3.heap.size w3 wx) => (show wx.cell? (ad.add (i * 6)) = some (.int .i64 q.kind) ∧ wx.cell? ⟨(ad.add (i * 6)).block, (ad.add (i * 6)).off + 1, none⟩ = some (.int .i64 q.ver) ∧ wx.cell? ⟨(ad.add (i * 6)).block, (ad.add (i * 6)).off + 2, none⟩ = some (.int .i64 q.n) ∧ wx.cell? ⟨(ad.add (i * 6)).block, (ad.add (i * 6)).off + 3, none⟩ = some (.string q.term.name) ∧ wx.cell? ⟨(ad.add (i * 6)).block, (ad.add (i * 6)).off + 4, none⟩ = some (.slice A' n' c') ∧ wx.cell? ⟨(ad.add (i * 6)).block, (ad.add (i * 6)).off + 5, none⟩ = some (.bool q.term.none) from
        ⟨(hx.cell (p := ad.add (i * 6)) (by rw [block_of_add]; exact hbl)).trans b0, (hx.cell (hblk _)).trans b1, (hx.cell (hblk _)).trans b2, (hx.cell (hblk _)).trans b3, (hx.cell (hblk _)).trans b4, (hx.cell (hblk _)).trans b5⟩))
      have kd : Below wr.heap.size wr wr.drew := (Below.refl _ _).drew
      have kz : Below w3.heap.size w3 wr.drew := hb.trans (kd.mono hbs)
      have HSt := hide (stepTr_any HH.out pp q A' n' c' (HH.out.below hT kd) (hD.below kd) hfew hI.out.rise (ins_old hsp kz) hnc hq60 (by omega))
      have hPl := plays_do hI.out q hq60 (by omega)
      have hfew' : FewT (doT x q).2 := hPl.few (by omega)
      have HI' := hide hPl
      generalize (doT x q).2 = x' at *
      obtain ⟨kd', vr, dn, tn, ts, tz⟩ := q
      simp only [] at HSt HCz
      have hi1 : (0 : Int) ≤ (i : Int) := by omega
      have hi2 : (i : Int) < (n0 : Int) := by omega
      have lvv : ((x'.level : Int) != (x'.level : Int)) = false := bne_self_eq_false _
      have lnn : ((x'.l.length : Int) != (x'.l.length : Int)) = false := bne_self_eq_false _
      obtain ⟨p0, p1, p2, p3, p4, p5⟩ := HCz.out wr hb
      clear b0 b1 b2 b3 b4 b5 hsp hx hblk hq60 hq200 hI hPl hT hD
      go_upto_region 8 with fail
      obtain ⟨r0, r1, r2, r3, r4, r5⟩ := HCz.out _ kz
      go_region_with (first
          | (go_at_call 11
             refine (HH.out.len hT7 hfew').mono ?_
             rintro e w8 ⟨rfl, hb8⟩
             have hT8 := HH.out.below hT7 hb8
             have z8 := z7.below hb8 z7.lt
             have d0 := z8.cell 0
             have d1 := z8.cell 1
             have k8 := k7.trans (hb8.mono k7.size))
          | (go_at_call 10
             refine (HH.out.level hT6 hfew').mono ?_
             rintro e w7 ⟨rfl, hb7⟩
             have hT7 := HH.out.below hT6 hb7
             have z7 := z6.below hb7 z6.lt
             have d0 := z7.cell 0
             have d1 := z7.cell 1
             have k7 := k6.trans (hb7.mono k6.size))
          | (go_at_call 9
             refine HSt.out.mono ?_
             rintro e w6 ⟨rfl, hT6, ⟨A6, c6, z6, hE6, hBg⟩, hb6⟩
             have d0 := z6.cell 0
             have d1 := z6.cell 1
             have k6 : Below w3.heap.size w3 w6 := kz.trans hb6))
      all_goals
        have hD8 : DocT w8 g w3.heap.size x' := ⟨A6, c6, z8, hE6.on (hb7.trans (hb8.mono hb7.size)), hBg⟩
        go_wp2
        go_roundw
        case rel => exact ⟨i + 1, x', by omega, by go_num, hT8, hD8, HI', k8⟩
        case measure => simp [RowKit.intOf]; omega
    · have hi2 : i = n0 := by omega
      obtain ⟨A6, c6, z6, hE6, hBg⟩ := hD
      have HB := hide (fun (wx : World) (hx : Below wr.heap.size wr wx) => (show wx.cell? ⟨g, 0, none⟩ = some (.slice A6 x.l.length c6) ∧ wx.cell? ⟨g, 1, none⟩ = some (.int .i64 (x.level : Int)) ∧ wx.cell? ⟨gq, 0, none⟩ = some (.int .i64 qn) ∧ wx.cell? ⟨gq, 1, none⟩ = some (.string qm) from
        ⟨(z6.below hx z6.lt).cell 0, (z6.below hx z6.lt).cell 1, HQ0.out wx (hb3.trans ((hb.trans (hx.mono hbs)).mono hb3s)), HQ.out wx (hb3.trans ((hb.trans (hx.mono hbs)).mono hb3s))⟩))
      have HT := hide (fun (wx : World) (hx : Below wr.heap.size wr wx) => HH.out.below hT hx)
      have HE := hide (fun (wx : World) (hx : Below wr.heap.size wr wx) => (show EnR 87 wx w3.heap.size A6 x.l.length x.l from hE6.on hx))
      have hlen := hfew.len
      have HSa := hide (fun (wx : World) (hx : Below wr.heap.size wr wx) => sameTr_any HH.out pp A6 x.l.length c6 wx (HT.out wx hx) (HE.out wx hx) hfew hI.out.cause hI.out.names)
      have HF1 := hide (fun (wx : World) (hx : Below wr.heap.size wr wx) => HH.out.first c A1 n1 k1 (HT.out wx hx) hfew (HCo.out.on (hb3.trans ((hb.trans (hx.mono hbs)).mono hb3s))) hn40 Hcs.out)
      have HF2 := hide (fun (wx : World) (hx : Below wr.heap.size wr wx) => refFirstE_any w3.heap.size x.l c A6 A1 x.l.length c6 x.level n1 k1 wx (HE.out wx hx) hfew.small hlen (HCo.out.on (hb3.trans ((hb.trans (hx.mono hbs)).mono hb3s))) (by omega) (fun t ht => (Hcs.out t ht).2.2))
      have HK1 := hide (fun (wx : World) (hx : Below wr.heap.size wr wx) => HH.out.knowAt qn qm (HT.out wx hx) hfew hqm9)
      have HK2 := hide (fun (wx : World) (hx : Below wr.heap.size wr wx) => refKnowAt_any w3.heap.size x.l A6 x.l.length c6 x.level qn qm wx (HE.out wx hx) hfew.small (by omega))
      unfold TellsB at HK1
      unfold TellsTm at HK2
      have hL9 : (knowL (x.l.take qn.toNat) qm).set.length ≤ 10000 := by have := know_len_at hfew.small qm (k := qn.toNat); omega
      have HSm := hide (fun (wx : World) (A1 A2 : Option Addr) (n1 c1 n2 c2 : Nat) (h1 : SpOn wx A1 n1 (knowL (x.l.take qn.toNat) qm).set) (h2 : SpOn wx A2 n2 (knowL (x.l.take qn.toNat) qm).set) => (show Calls Tryz.prog 21 #[.agg #[.string (knowL (x.l.take qn.toNat) qm).name, .slice A1 n1 c1, .bool (knowL (x.l.take qn.toNat) qm).none], .agg #[.string (knowL (x.l.take qn.toNat) qm).name, .slice A2 n2 c2, .bool (knowL (x.l.take qn.toNat) qm).none]] wx fun e w' => e = .returned (.bool true) ∧ Below wx.heap.size wx w' from by
        have := refSameT_any (knowL (x.l.take qn.toNat) qm).name (knowL (x.l.take qn.toNat) qm).name (knowL (x.l.take qn.toNat) qm).set (knowL (x.l.take qn.toNat) qm).set (knowL (x.l.take qn.toNat) qm).none (knowL (x.l.take qn.toNat) qm).none A1 A2 n1 c1 n2 c2 wx h1 h2 (by have := h1.len; omega) (by have := h2.len; omega)
        unfold Tells at this
        rw [show ∀ t : Tm, (decide (t.name = t.name) && (t.none == t.none && decide (t.set = t.set))) = true from fun t => by simp] at this
        exact this))
      have HFu := hide (fun (wx : World) (A1 : Option Addr) (n1 c1 : Nat) (h1 : SpOn wx A1 n1 allS) => (show Calls Tryz.prog 17 #[.agg #[.string ⟨#[97]⟩, .slice A1 n1 c1, .bool true]] wx fun e w' => e = .returned (.bool true) ∧ Below wx.heap.size wx w' from by
        have := refFullT_any ⟨#[97]⟩ allS true A1 n1 c1 wx h1 (by have := h1.len; simp [allS] at this; omega)
        unfold Tells at this
        rw [show (true && decide (allS = allS)) = true from by simp] at this
        exact this))
      have HZk := hide (fun (wx : World) => HZ.out.know ⟨#[97]⟩ wx (by decide))
      unfold TellsB at HZk
      generalize knowL (x.l.take qn.toNat) qm = T9 at *
      generalize firstT x.l c = F9 at *
      have fff : (F9 == F9) = true := beq_self_eq_true _
      clear hT hE6 z6 HCo HDo HQ HQ0 Hcs Hsd hI hfew hL9 hi2
      go_upto_region 14 with (first
        | (go_at_call 17
           refine (HFu.out _ _ _ _ hI7.1).mono ?_
           rintro e w10 ⟨rfl, hb10⟩
           have k10 : Below wr.heap.size wr w10 := k9.trans (hb10.mono k9.size))
        | (go_at_call 18
           refine (HZk.out _).mono ?_
           rintro e w9 ⟨A7, n7, c7, rfl, hI7, hb9⟩
           have k9 : Below wr.heap.size wr w9 := k8.trans (hb9.mono k8.size))
        | (go_at_call 16
           refine (HZ.out.picks _).mono ?_
           rintro e w8 ⟨⟨A8, c8, rfl⟩, hb8⟩
           have k8 : Below wr.heap.size wr w8 := k7.trans (hb8.mono k7.size))
        | (go_at_call 15
           refine (HZ.out.first _).mono ?_
           rintro e w7 ⟨rfl, hb7⟩
           have k7 : Below wr.heap.size wr w7 := k6.trans (hb7.mono k6.size))
        | (go_at_call 10
           refine (HZ.out.level _).mono ?_
           rintro e w6 ⟨rfl, hb6⟩
           have k6 : Below wr.heap.size wr w6 := k5.trans (hb6.mono k5.size))
        | (go_at_call 11
           refine (HZ.out.len _).mono ?_
           rintro e w5 ⟨rfl, hb5⟩
           have k5 : Below wr.heap.size wr w5 := k4.trans (hb5.mono k4.size))
        | (go_at_call 14
           refine (HZ.out.derive _ _ _ _).mono ?_
           rintro e w4 ⟨rfl, hb4⟩
           have k4 : Below wr.heap.size wr w4 := k2.trans (hb4.mono k2.size))
        | (go_at_call 13
           refine (HZ.out.decide _ _ _).mono ?_
           rintro e w2 ⟨rfl, hb2⟩
           have k2 : Below wr.heap.size wr w2 := k1.trans (hb2.mono k1.size))
        | (go_at_call 12
           refine (HZ.out.back _ _).mono ?_
           rintro e w1 ⟨rfl, hb1⟩
           have k1 : Below wr.heap.size wr w1 := hb1))
      have kd10 : Below wr.heap.size wr w10.drew := k10.trans ((Below.refl _ _ : Below w10.heap.size w10 w10).drew.mono k10.size)
      obtain ⟨o0, o1, o2, o3⟩ := HB.out _ k10
      clear hb1 hb2 hb4 hb5 hb6 hb7 hb8 hb9 hb10 k1 k2 k4 k5 k6 k7 k8 k9 HFu HZk HZ hI7
      go_region_held3 (fun w' => w'.cell? ⟨g, 0, none⟩ = some (.slice A6 x.l.length c6) ∧ w'.cell? ⟨g, 1, none⟩ = some (.int .i64 (x.level : Int)) ∧ w'.cell? ⟨gq, 0, none⟩ = some (.int .i64 qn) ∧ w'.cell? ⟨gq, 1, none⟩ = some (.string qm)) (first | exact HB.out _ m7 | exact HB.out _ m6 | exact HB.out _ m5 | exact HB.out _ m4 | exact HB.out _ m3 | exact HB.out _ m2 | exact HB.out _ m1 | exact HB.out _ kd10 | go_keep)
        (first
          | (go_at_call 7
             refine (HA.out _).mono ?_
             rintro e w17 ⟨rfl, hb17⟩
             have m7 : Below wr.heap.size wr w17 := m6.trans (hb17.mono m6.size))
          | (go_at_call 21
             refine (HSm.out _ _ _ _ _ _ _ (h14.below hb15).1 h15.1).mono ?_
             rintro e w16 ⟨rfl, hb16⟩
             have m6 : Below wr.heap.size wr w16 := m5.trans (hb16.mono m5.size))
          | (go_at_call 23
             refine (HK2.out _ m4).mono ?_
             rintro e w15 ⟨A15, n15, c15, rfl, h15, hb15⟩
             have m5 : Below wr.heap.size wr w15 := m4.trans (hb15.mono m4.size))
          | (go_at_call 22
             refine (HK1.out _ m3).mono ?_
             rintro e w14 ⟨A14, n14, c14, rfl, h14, hb14⟩
             have m4 : Below wr.heap.size wr w14 := m3.trans (hb14.mono m3.size))
          | (go_at_call 20
             refine (HF2.out _ m2).mono ?_
             rintro e w13 ⟨rfl, hb13⟩
             have m3 : Below wr.heap.size wr w13 := m2.trans (hb13.mono m2.size))
          | (go_at_call 15
             refine (HF1.out _ m1).mono ?_
             rintro e w12 ⟨rfl, hb12⟩
             have m2 : Below wr.heap.size wr w12 := m1.trans (hb12.mono m1.size))
          | (go_at_call 19
             refine (HSa.out _ kd10).mono ?_
             rintro e w11 ⟨rfl, hb11⟩
             have m1 : Below wr.heap.size wr w11 := kd10.trans (hb11.mono kd10.size)))
      all_goals
        go_wp2
        go_ret
        exact ⟨rfl, hbW0.trans ((hb3.trans ((hb.trans (m7.mono hbs)).mono hb3s)).mono hbW0.size)⟩
end
end Go.Proofs.YtllogmokadcfmaaGreat.Trail
