/-
  Some texts of this claim, one behind the other: PlainIn. What each proves, and its condition, stands at its head.
-/
import Derived.Test.YtmoeilkaadnnoaaGreatY40
import Derived.Test.YtmoeilkaadnnoaaGreatY42
import Derived.Test.YtmoeilkaadnnoaaGreatY13
import Derived.Deep.RegionHeld3
/-
  Contracts of the search's in and manifest: what is asked of a name; the manifest of a name, read once. Condition: what is known is looked at; names of at most 1,000,000,000 bytes.
-/
namespace Go.Proofs.YtmoeilkaadnnoaaGreat.Plain
open Go Go.RowKit Go.Lib Go.Sort Go.Proofs.YtmoeilkaadnnoaaGreat.Span Go.Proofs.YtmoeilkaadnnoaaGreat.Need Go.Proofs.YtmoeilkaadnnoaaGreat.Mani Go.Proofs.YtmoeilkaadnnoaaGreat.Wire Go.Proofs.YtmoeilkaadnnoaaGreat.Depot Go.Proofs.YtmoeilkaadnnoaaGreat.Index Go.Proofs.YtmoeilkaadnnoaaGreat.Reach Go.Proofs.YtmoeilkaadnnoaaGreat.Pick Go.Proofs.YtmoeilkaadnnoaaGreat.Fit Go.Proofs.YtmoeilkaadnnoaaGreat.MapV
set_option linter.unusedVariables false
theorem zero_hist (w : World) : (zeroValue 133).run Tryz.prog w = .ok (.slice none 0 0) w := by kernel_rfl
theorem zero_mani (w : World) : (zeroValue 77).run Tryz.prog w = .ok (.agg #[.string ⟨#[]⟩, .slice none 0 0]) w := by kernel_rfl
theorem zero_int_ (w : World) : (zeroValue 3).run Tryz.prog w = .ok (.int .i64 0) w := by kernel_rfl
theorem AskM.at_ {w : World} {B ma K : Nat} {h : ByteArray → List (List S)} (g : AskM w B ma K h) (nm : ByteArray) (hs : nm.size ≤ maxLen) :
    ∃ A c, (∀ k, (Instr.lookup 68 (.map (some ma)) (.string nm) false).run Tryz.prog (w.drewN k) = .ok (.slice A (h nm).length c) (w.drewN k)) ∧ (h nm).length ≤ c ∧ c ≤ maxLen ∧ HistIn w B (.slice A (h nm).length c) (h nm) := by
  obtain ⟨f, g1, g2, g3, g4⟩ := g
  cases e : f nm with
  | none =>
    have e2 := g2 nm e
    refine ⟨none, 0, fun k => ?_, by rw [e2]; exact Nat.le_refl _, Nat.zero_le _, [], ?_, ?_⟩
    · have := OwnTold.look (w := w.drewN k) g1 Tryz.underlying68 (zero_hist _) hs
      rw [e] at this
      rw [e2]
      exact this
    · rw [e2]; exact World.ownsRow_nil w B _ 1
    · rw [e2]; exact ⟨rfl, fun i x s hx _ => by simp at hx⟩
  | some v =>
    have g5 := g3 nm v e
    obtain ⟨sv, g6, g7⟩ := g5
    obtain ⟨A, c, rfl, hc, hm, _⟩ := own_form g6
    refine ⟨A, c, fun k => ?_, hc, hm, sv, g6, g7⟩
    have := OwnTold.look (w := w.drewN k) g1 Tryz.underlying68 (zero_hist _) hs
    rw [e] at this
    exact this
theorem HistIn.last {w : World} {B : Nat} {A : Option Addr} {n c : Nat} {h : List (List S)} (g : HistIn w B (.slice A n c) h) (hn : 0 < n) : n = h.length ∧ ∃ ad A' n' c', A = some ad ∧ w.cell? (ad.add (n - 1)) = some (.slice A' n' c') ∧ InS w 0 A' n' (inH h) := by
  obtain ⟨sv, g1, g2⟩ := g
  obtain ⟨A', c', e, hc, hm, hr⟩ := own_form g1
  injection e with e1 e2 e3
  subst e1 e2 e3
  obtain ⟨ad, hA, _, hj⟩ := hr.2 hn
  have h1 : sv.length = h.length := g2.1
  have hlt : h.length - 1 < h.length := by omega
  obtain ⟨A'', n'', c'', e, hi⟩ := g2.2 (h.length - 1) (sv[h.length - 1]'(by omega)) (h[h.length - 1]'hlt) (by simp) (by simp)
  refine ⟨rfl, ad, A'', n'', c'', hA, ?_, ?_⟩
  · rw [hj (h.length - 1) (sv[h.length - 1]'(by omega)) (by simp), e]
  · unfold inH
    rw [List.getLast?_eq_getElem?, List.getElem?_eq_getElem hlt]
    exact hi
section
variable {X : List Kn} {w0 : World} {b : Nat} {o : Option Addr} {K : Nat} {fuel : Int} {h : ByteArray → List (List S)} {vf : ByteArray → Option Int} {O : List ByteArray} {F : List Tr} {vt : Value}
set_option maxHeartbeats 4000000 in
set_option maxRecDepth 100000 in
theorem inP_any (nm : ByteArray) (w : World) (g : Srch X w0 b o K fuel h vf O F vt w) (hK : (h nm).length ≤ 1000000) (hnm : nm.size ≤ 1000000000) :
    Calls Tryz.prog 74 #[.pointer (some ⟨b, 0, none⟩), .string nm] w (Makes w (inH (h nm))) := by
  obtain ⟨mr, ma, mv, vo, hb, hm, _⟩ := g
  have hmx : 1000000000000 ≤ maxLen := by unfold maxLen; omega
  obtain ⟨A, c, hl0, hc, hcm, hh⟩ := hm.ask.at_ nm (by omega)
  have hlook := hl0 0
  have hlook : (Instr.lookup 68 (.map (some ma)) (.string nm) false).run Tryz.prog w = .ok (.slice A (h nm).length c) w := hlook
  have hc3 : w.cell? ⟨b, 3, none⟩ = some (.map (some ma)) := hb.cell 3
  have HA := hide (fun (wx : World) => all_any wx)
  clear hl0 hm hb
  generalize h nm = L at *
  by_cases hz : L.length = 0
  · have e : L = [] := List.eq_nil_of_length_eq_zero hz
    subst e
    clear hh hz
    go_enter Tryz.func74, Tryz.ntmps74
    go_wp2_with (first
      | (go_at_call 38
         refine (HA.out _).mono ?_
         rintro e w1 ⟨A1, n1, c1, rfl, hS1, hb01⟩))
    go_ret
    unfold Makes
    exact ⟨_, _, _, rfl, hS1, hb01⟩
  · obtain ⟨_, ad, A', n', c', rfl, hcell, hi⟩ := hh.last (by omega)
    have i1 : ((L.length : Int) == 0) = false := beq_eq_false_iff_ne.2 (by omega)
    have i2 : IntKind.i64.wrap ((L.length : Int) - 1) = ((L.length - 1 : Nat) : Int) := by rw [IntKind.wrap_i64]; omega
    have i3 : (0 : Int) ≤ ((L.length - 1 : Nat) : Int) := by omega
    have i4 : ((L.length - 1 : Nat) : Int) < (L.length : Int) := by omega
    have i5 : (((L.length - 1 : Nat) : Int)).toNat = L.length - 1 := by omega
    have Hi := hide hi
    clear hh hi HA hc hcm
    go_enter Tryz.func74, Tryz.ntmps74
    go_wp2
    go_ret
    unfold Makes
    exact ⟨_, _, _, rfl, Hi.out.1, Below.refl _ _⟩
theorem ReadM.at_ {w : World} {mr K : Nat} {X : List Kn} (g : ReadM w mr K X) (nm : ByteArray) (hs : nm.size ≤ maxLen) :
    (∃ A n c B rs, Rls w B (.slice A n c) n rs (getX X nm).1 ∧ ∀ k, (Instr.lookup 67 (.map (some mr)) (.string nm) true).run Tryz.prog (w.drewN k) = .ok (.tuple #[.agg #[.string nm, .slice A n c], .bool true]) (w.drewN k)) ∨
    ∀ k, (Instr.lookup 67 (.map (some mr)) (.string nm) true).run Tryz.prog (w.drewN k) = .ok (.tuple #[.agg #[.string ⟨#[]⟩, .slice none 0 0], .bool false]) (w.drewN k) := by
  obtain ⟨f, g1, g2⟩ := g
  cases e : f nm with
  | none =>
    refine .inr fun k => ?_
    have := OwnTold.look_ok (w := w.drewN k) g1 Tryz.underlying67 (zero_mani _) hs
    rw [e] at this
    exact this
  | some v =>
    obtain ⟨A, n, c, B, rs, rfl, hr⟩ := g2 nm v e
    refine .inl ⟨A, n, c, B, rs, hr, fun k => ?_⟩
    have := OwnTold.look_ok (w := w.drewN k) g1 Tryz.underlying67 (zero_mani _) hs
    rw [e] at this
    exact this
theorem ReadM.put_ {w : World} {mr K : Nat} {X : List Kn} (g : ReadM w mr K X) (hK : K < maxLen) {nm : ByteArray} (hs : nm.size ≤ maxLen) {A : Option Addr} {n c B : Nat} {rs : List Vr} (hr : Rls w B (.slice A n c) n rs (getX X nm).1) :
    ∃ w', (Instr.mapUpdate 67 (.map (some mr)) (.string nm) (.agg #[.string nm, .slice A n c])).run Tryz.prog w = .ok () w' ∧ ReadM w' mr (K + 1) X ∧ w.grownBy w' (some mr) ∧ ∀ T, FarT w T (some mr) := by
  obtain ⟨f, g1, g2⟩ := g
  have F0 := fun T => farT_ownF T g1
  obtain ⟨w', h1, h2, h3⟩ := g1.put Tryz.underlying67 hK hs (.agg #[.string nm, .slice A n c])
  refine ⟨w', h1, ⟨_, h2, fun a v hv => ?_⟩, h3.grown, F0⟩
  by_cases e : nm = a
  · simp only [if_pos e] at hv
    injection hv with hv
    subst e hv
    exact ⟨A, n, c, B, rs, rfl, hr.far (F0 _) (F0 _) (F0 _) h3.grown⟩
  · simp only [if_neg e] at hv
    obtain ⟨A', n', c', B', rs', e1, hr'⟩ := g2 a v hv
    exact ⟨A', n', c', B', rs', e1, hr'.far (F0 _) (F0 _) (F0 _) h3.grown⟩
theorem only_swap {W w3 : World} {g r : Nat} {T : TypeId} {cs : Array Value} (hg : W.grownBy w3 (some r)) (h1 : Blk W g T cs) (h2 : Blk w3 g T cs) (u v : Value) : ((W.setCell ⟨g, 0, none⟩ u).setCell ⟨g, 1, none⟩ v).grownBy ((w3.setCell ⟨g, 0, none⟩ u).setCell ⟨g, 1, none⟩ v) (some r) := by
  have a : W.grownBy ((W.setCell ⟨g, 0, none⟩ u).setCell ⟨g, 1, none⟩ v) (some g) := only_setCell (p := ⟨g, 1, none⟩) (only_setCell (p := ⟨g, 0, none⟩) (only_self W g) (.inl rfl) _) (.inl rfl) _
  have b : w3.grownBy ((w3.setCell ⟨g, 0, none⟩ u).setCell ⟨g, 1, none⟩ v) (some g) := only_setCell (p := ⟨g, 1, none⟩) (only_setCell (p := ⟨g, 0, none⟩) (only_self w3 g) (.inl rfl) _) (.inl rfl) _
  have e1 : ((W.setCell ⟨g, 0, none⟩ u).setCell ⟨g, 1, none⟩ v).heap.size = W.heap.size := by simp
  refine ⟨(b.os.trans hg.os).trans a.os.symm, (b.tape.trans hg.tape).trans a.tape.symm, (b.output.trans hg.output).trans a.output.symm, by rw [e1]; exact Nat.le_trans hg.size b.size, fun k hk hne => ?_⟩
  rw [e1] at hk
  by_cases e : k = g
  · subst e
    exact ((h2.set_ 0 u).set_ 1 v).trans ((h1.set_ 0 u).set_ 1 v).symm
  · rw [b.block k (Nat.lt_of_lt_of_le hk hg.size) (by intro g; injection g with g; exact e g), a.block k hk (by intro g; injection g with g; exact e g)]
    exact hg.block k hk hne
def Manis (X : List Kn) (w0 : World) (b : Nat) (o : Option Addr) (K : Nat) (fuel : Int) (h : ByteArray → List (List S)) (vf : ByteArray → Option Int) (O : List ByteArray) (F : List Tr) (vt : Value) (nm : ByteArray) (w : World) (e : Ending) (w' : World) : Prop :=
  ∃ A n c B rs, e = .returned (.agg #[.string nm, .slice A n c]) ∧ Rls w' B (.slice A n c) n rs (getX X nm).1 ∧ Srch X w0 b o (K + 1) fuel h vf O F vt w' ∧ Runs w w' ∧ w.heap.size ≤ w'.heap.size
set_option maxHeartbeats 4000000 in
set_option maxRecDepth 100000 in
theorem manifestP_any (nm : ByteArray) (w : World) (g : Srch X w0 b o K fuel h vf O F vt w) (hX : TellsX w0 (.pointer o) X) (hK : K < 1000000000) (hnm : nm.size ≤ 1000000000) :
    Calls Tryz.prog 78 #[.pointer (some ⟨b, 0, none⟩), .string nm] w (Manis X w0 b o K fuel h vf O F vt nm w) := by
  obtain ⟨mr, ma, mv, vo, hb, hm, hBb, hbw⟩ := g
  have hmx : maxLen = 9223372036854775807 := by unfold maxLen; omega
  have hB1 : mr ≠ b := by obtain ⟨f, g1, _⟩ := hm.read; exact ne_map_blk hb g1
  unfold Manis
  have b4 := Blk.new w 77 #[.string ⟨#[]⟩, .slice none 0 0]
  obtain ⟨W, hW⟩ : ∃ W, W = w.alloc (.cells #[.string ⟨#[]⟩, .slice none 0 0] 77) := ⟨_, rfl⟩
  have b4 : Blk W w.heap.size 77 #[.string ⟨#[]⟩, .slice none 0 0] := by rw [hW]; exact b4
  have hww : Below w.heap.size w W := by rw [hW]; exact alloc_bw _ _
  have hbW := hb.below hww hb.lt
  have hmW := hm.below hww
  have hc2 : W.cell? ⟨b, 2, none⟩ = some (.map (some mr)) := hbW.cell 2
  have hc0 : W.cell? ⟨b, 0, none⟩ = some (.pointer o) := hbW.cell 0
  have hws := hww.size
  have hws2 : W.heap.size = w.heap.size + 1 := by rw [hW]; simp
  rcases hmW.read.at_ nm (by omega) with ⟨A, n, c, B', rs, hr, hl0⟩ | hl0
  · have hlook : (Instr.lookup 67 (.map (some mr)) (.string nm) true).run Tryz.prog W = .ok (.tuple #[.agg #[.string nm, .slice A n c], .bool true]) W := hl0 0
    clear hl0
    have b5 := b4.alloc (.cells #[.string nm, .slice A n c] 77)
    have d5 := Blk.new W 77 #[.string nm, .slice A n c]
    have k0 : W.cell? ⟨w.heap.size, 0, none⟩ = some (.string ⟨#[]⟩) := b4.cell 0
    have k1 : W.cell? ⟨w.heap.size, 1, none⟩ = some (.slice none 0 0) := b4.cell 1
    have fz0 := b4.frozen 0
    have fz1 := b4.frozen 1
    go_enter Tryz.func78, Tryz.ntmps78
    go_upto_region 1 with fail
    rw [← hW]
    clear hW
    go_wp2
    have hblk := ((b4.set_ 0 (.string nm)).set_ 1 (.slice A n c)).alloc (.cells #[.string nm, .slice A n c] 77)
    have hg2 : W.grownBy ((W.setCell ⟨w.heap.size, 0, none⟩ (.string nm)).setCell ⟨w.heap.size, 1, none⟩ (.slice A n c)) (some w.heap.size) := only_setCell (p := ⟨w.heap.size, 1, none⟩) (only_setCell (p := ⟨w.heap.size, 0, none⟩) (only_self W w.heap.size) (.inl rfl) _) (.inl rfl) _
    have hV := (((hww.setCell (p := ⟨w.heap.size, 0, none⟩) (Nat.le_refl _) (.string nm)).setCell (p := ⟨w.heap.size, 1, none⟩) (Nat.le_refl _) (.slice A n c)).alloc (by simp; exact hws) (.cells #[.string nm, .slice A n c] 77))
    refine bodyPost_ret (results_cell_row rfl _ _ w.heap.size 77 _ (0, 0) _ rfl hblk Tryz.underlying77 rfl mani_size) rfl ?_
    exact ⟨A, n, c, B', rs, rfl, (hr.far (farT_blk b4 (by decide)) (farT_blk b4 (by decide)) (farT_blk b4 (by decide)) hg2).below (alloc_bw _ _), ⟨mr, ma, mv, vo, hb.below hV hb.lt, (hm.below hV).mono (by omega), hBb, hbw.trans (hV.mono hbw.size)⟩, .of_below hV, hV.size⟩
  · have hlook : (Instr.lookup 67 (.map (some mr)) (.string nm) true).run Tryz.prog W = .ok (.tuple #[.agg #[.string ⟨#[]⟩, .slice none 0 0], .bool false]) W := hl0 0
    clear hl0
    have b5 := b4.alloc (.cells #[.string ⟨#[]⟩, .slice none 0 0] 77)
    have d5 := Blk.new W 77 #[.string ⟨#[]⟩, .slice none 0 0]
    have hb5 := hbW.alloc (.cells #[.string ⟨#[]⟩, .slice none 0 0] 77)
    have hc0 : (W.alloc (.cells #[.string ⟨#[]⟩, .slice none 0 0] 77)).cell? ⟨b, 0, none⟩ = some (.pointer o) := hb5.cell 0
    have HG := hide (fun (wx : World) (hx : Below w0.heap.size w0 wx) => (hX nm wx hx hnm).1)
    unfold Gots at HG
    go_enter Tryz.func78, Tryz.ntmps78
    go_upto_region 1 with fail
    rw [← hW]
    clear hW
    go_upto_region 4 with (first
      | (go_at_call 60
         refine (HG.out _ ?_).mono ?_
         · exact (hbw.trans (hww.mono hbw.size)).alloc (Nat.le_trans hbw.size hws) _
         rintro e w1 ⟨A, n, c, B', rs, rfl, hr, hb1⟩
         have f5 := d5.below hb1 d5.lt
         rw [hws2] at f5
         have k0 : w1.cell? ⟨w.heap.size + 1, 0, none⟩ = some (.string ⟨#[]⟩) := f5.cell 0
         have k1 : w1.cell? ⟨w.heap.size + 1, 1, none⟩ = some (.slice none 0 0) := f5.cell 1
         have fz0 := f5.frozen 0
         have fz1 := f5.frozen 1))
    have hbs1 : w.heap.size ≤ w1.heap.size := Nat.le_trans hws (Nat.le_trans (by simp) hb1.size)
    have hV : Below w.heap.size w ((w1.setCell ⟨w.heap.size + 1, 0, none⟩ (.string nm)).setCell ⟨w.heap.size + 1, 1, none⟩ (.slice A n c)) :=
      (((hww.alloc hws (.cells #[.string ⟨#[]⟩, .slice none 0 0] 77)).trans (hb1.mono (by simp; omega))).setCell (p := ⟨w.heap.size + 1, 0, none⟩) (by simp) (.string nm)).setCell (p := ⟨w.heap.size + 1, 1, none⟩) (by simp) (.slice A n c)
    have hg2 : w1.grownBy ((w1.setCell ⟨w.heap.size + 1, 0, none⟩ (.string nm)).setCell ⟨w.heap.size + 1, 1, none⟩ (.slice A n c)) (some (w.heap.size + 1)) := only_setCell (p := ⟨w.heap.size + 1, 1, none⟩) (only_setCell (p := ⟨w.heap.size + 1, 0, none⟩) (only_self w1 (w.heap.size + 1)) (.inl rfl) _) (.inl rfl) _
    have hr2 := hr.far (farT_blk f5 (by decide)) (farT_blk f5 (by decide)) (farT_blk f5 (by decide)) hg2
    have h4 : Blk w1 w.heap.size 77 #[.string ⟨#[]⟩, .slice none 0 0] := b5.below hb1 b5.lt
    have h42 := h4.grown hg2 (by simp)
    have h52 := (f5.set_ 0 (.string nm)).set_ 1 (.slice A n c)
    generalize hW2 : (w1.setCell ⟨w.heap.size + 1, 0, none⟩ (.string nm)).setCell ⟨w.heap.size + 1, 1, none⟩ (.slice A n c) = W2 at *
    have hb2 := hb.below hV hb.lt
    have hm2 := hm.below hV
    obtain ⟨w3, hrun3, hm3, hg3, hf3⟩ := ReadM.put_ (w := W2.drew) hm2.read (by omega) (nm := nm) (by omega) hr2
    have m2 : W2.cell? ⟨b, 2, none⟩ = some (.map (some mr)) := hb2.cell 2
    have p0 : W2.cell? ⟨w.heap.size + 1, 0, none⟩ = some (.string nm) := h52.cell 0
    have p1 : W2.cell? ⟨w.heap.size + 1, 1, none⟩ = some (.slice A n c) := h52.cell 1
    have q5 : Blk w3 (w.heap.size + 1) 77 #[.string nm, .slice A n c] := Blk.grown (w := W2.drew) h52 hg3 (hf3 _ _ _ _ h52)
    have q4 : Blk w3 w.heap.size 77 #[.string ⟨#[]⟩, .slice none 0 0] := Blk.grown (w := W2.drew) h42 hg3 (hf3 _ _ _ _ h42)
    have s0 : w3.cell? ⟨w.heap.size + 1, 0, none⟩ = some (.string nm) := q5.cell 0
    have s1 : w3.cell? ⟨w.heap.size + 1, 1, none⟩ = some (.slice A n c) := q5.cell 1
    have t0 : w3.cell? ⟨w.heap.size, 0, none⟩ = some (.string ⟨#[]⟩) := q4.cell 0
    have t1 : w3.cell? ⟨w.heap.size, 1, none⟩ = some (.slice none 0 0) := q4.cell 1
    have u0 := q4.frozen 0
    have u1 := q4.frozen 1
    go_region
    go_wp2
    have hm2d := hm2.below (w1 := W2.drew) (Below.refl _ _).drew
    have hm3' := hm2d.readTo hg3 (Nat.le_succ K) hm3
    have hb3 : Blk w3 b 73 _ := Blk.grown (w := W2.drew) hb2 hg3 (hf3 _ _ _ _ hb2)
    have hblk := (q4.set_ 0 (.string nm)).set_ 1 (.slice A n c)
    have hg4 : w3.grownBy ((w3.setCell ⟨w.heap.size, 0, none⟩ (.string nm)).setCell ⟨w.heap.size, 1, none⟩ (.slice A n c)) (some w.heap.size) := only_setCell (p := ⟨w.heap.size, 1, none⟩) (only_setCell (p := ⟨w.heap.size, 0, none⟩) (only_self w3 w.heap.size) (.inl rfl) _) (.inl rfl) _
    have hr3 : Rls w3 B' (.slice A n c) n rs (getX X nm).1 := Rls.far (w := W2.drew) hr2 (hf3 _) (hf3 _) (hf3 _) hg3
    have hw3 : Below w0.heap.size w0 w3 := Below.grown (hbw.trans (hV.mono hbw.size)).drew hg3 (Nat.le_trans hbw.size hV.size) (fun r e => by injection e with e; rw [← e]; exact hm.br)
    have hrun1 : Runs w W2.drew := .of_below hV.drew
    refine bodyPost_ret (results_cell_row rfl _ _ w.heap.size 77 _ (0, 0) _ rfl hblk Tryz.underlying77 rfl mani_size) rfl ?_
    refine ⟨A, n, c, B', rs, rfl, hr3.far (farT_blk q4 (by decide)) (farT_blk q4 (by decide)) (farT_blk q4 (by decide)) hg4, ⟨mr, ma, mv, vo, hb3.grown hg4 ?_, hm3'.blk q4 (by decide) hg4, hBb, (hw3.setCell (p := ⟨w.heap.size, 0, none⟩) hbw.size _).setCell (p := ⟨w.heap.size, 1, none⟩) hbw.size _⟩, ?_, ?_⟩
    · have := hb.lt
      intro e
      injection e with e
      omega
    · have hM : Below w.heap.size w ((W2.drew.setCell ⟨w.heap.size, 0, none⟩ (.string nm)).setCell ⟨w.heap.size, 1, none⟩ (.slice A n c)) := (hV.drew.setCell (p := ⟨w.heap.size, 0, none⟩) (Nat.le_refl _) _).setCell (p := ⟨w.heap.size, 1, none⟩) (Nat.le_refl _) _
      have hsw := only_swap (W := W2.drew) hg3 h42 q4 (.string nm) (.slice A n c)
      have hfm := (hm.below hM).read
      obtain ⟨fm, m1, _⟩ := hfm
      exact (Runs.of_below hM).step hsw fun T _ => farT_ownF T m1
    · exact Nat.le_trans hV.size (Nat.le_trans hg3.size hg4.size)
end
end Go.Proofs.YtmoeilkaadnnoaaGreat.Plain
