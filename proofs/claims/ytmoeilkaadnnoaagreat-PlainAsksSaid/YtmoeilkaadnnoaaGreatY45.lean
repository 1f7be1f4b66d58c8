/-
  Some texts of this claim, one behind the other: PlainDrop, PlainAsk, PlainTry. What each proves, and its condition, stands at its head.
-/
import Derived.Test.YtmoeilkaadnnoaaGreatY41
import Derived.Test.YtmoeilkaadnnoaaGreatY44
import Derived.Test.YtmoeilkaadnnoaaGreatY14
import Derived.Test.YtmoeilkaadnnoaaGreatY13
import Derived.Test.YtmoeilkaadnnoaaGreatY18
import Derived.Test.YtmoeilkaadnnoaaGreatY23
/-
  The contract of the search's drop: what a try has picked is taken back. Condition: names of at most 1,000,000,000 bytes, at most 1,000,000 open ones.
-/
namespace Go.Proofs.YtmoeilkaadnnoaaGreat.Plain
open Go Go.RowKit Go.Lib Go.Sort Go.Proofs.YtmoeilkaadnnoaaGreat.Span Go.Proofs.YtmoeilkaadnnoaaGreat.Need Go.Proofs.YtmoeilkaadnnoaaGreat.Mani Go.Proofs.YtmoeilkaadnnoaaGreat.Wire Go.Proofs.YtmoeilkaadnnoaaGreat.Depot Go.Proofs.YtmoeilkaadnnoaaGreat.Index Go.Proofs.YtmoeilkaadnnoaaGreat.Reach Go.Proofs.YtmoeilkaadnnoaaGreat.Pick Go.Proofs.YtmoeilkaadnnoaaGreat.Fit Go.Proofs.YtmoeilkaadnnoaaGreat.MapV
set_option linter.unusedVariables false
theorem AskM.cut_ {w : World} {B ma K : Nat} {h : ByteArray → List (List S)} (g : AskM w B ma K h) {x : ByteArray} (hs : x.size ≤ maxLen) (hne : h x ≠ []) (hK : K < maxLen) :
    ∃ A c, (h x).length ≤ c ∧ c ≤ maxLen ∧ (∀ wx, Below w.heap.size w wx → (Instr.lookup 68 (.map (some ma)) (.string x) false).run Tryz.prog wx = .ok (.slice A (h x).length c) wx) ∧
      ∀ wx, Below w.heap.size w wx → ∃ w', (Instr.mapUpdate 68 (.map (some ma)) (.string x) (.slice A ((h x).length - 1) c)).run Tryz.prog wx = .ok () w' ∧ AskM w' B ma K (fun a => if x = a then (h a).dropLast else h a) ∧ wx.grownBy w' (some ma) := by
  obtain ⟨f, g1, g2, g3, g4⟩ := g
  cases e : f x with
  | none => exact absurd (g2 x e) hne
  | some v =>
    have g5 := g3 x v e
    have g5' := g5
    obtain ⟨sv, g6, g7⟩ := g5
    obtain ⟨A, c, rfl, hc, hm, _⟩ := own_form g6
    refine ⟨A, c, hc, hm, fun wx hb => ?_, fun wx hb => ?_⟩
    · have := OwnTold.look (g1.below hb) Tryz.underlying68 (zero_hist _) hs
      rw [e] at this
      exact this
    · have hob : (Value.slice A ((h x).length - 1) c).ownBlock = (Value.slice A (h x).length c).ownBlock := by cases A <;> rfl
      have g1x := g1.below hb
      have F0 := fun T => farT_ownF T g1x
      obtain ⟨w', h1, h2, h3⟩ := g1x.put_old Tryz.underlying68 hK hs (.slice A ((h x).length - 1) c) (by rw [e]; rfl)
      have far : ∀ {v : Value} {L : List (List S)}, HistIn w B v L → HistIn w' B v L := fun gx => (gx.far (farT_none _ _) (farT_none _ _) (only_of_below hb none)).far (F0 _) (F0 _) h3.grown
      refine ⟨w', h1, ⟨_, h2, fun a ha => ?_, fun a u ha => ?_, fun a b u v hab ha hb => ?_⟩, h3.grown⟩
      · by_cases ex : x = a
        · simp only [if_pos ex] at ha
          cases ha
        · simp only [if_neg ex] at ha ⊢
          exact g2 a ha
      · by_cases ex : x = a
        · simp only [if_pos ex] at ha ⊢
          injection ha with ha
          subst ex ha
          have hl : 0 < (h x).length := List.length_pos_iff.2 hne
          exact far (g5'.cut hl)
        · simp only [if_neg ex] at ha ⊢
          exact far (g3 a u ha)
      · by_cases ex : x = a
        · simp only [if_pos ex] at ha
          injection ha with ha
          subst ex ha
          simp only [if_neg hab] at hb
          exact fun k hk => g4 x b _ v hab e hb k (by rw [← hob]; exact hk)
        · simp only [if_neg ex] at ha
          by_cases eb : x = b
          · simp only [if_pos eb] at hb
            injection hb with hb
            subst eb hb
            exact fun k hk => by rw [hob]; exact g4 a x u _ hab ha e k hk
          · simp only [if_neg eb] at hb
            exact g4 a b u v hab ha hb
theorem VersM.del_ {w : World} {mv K : Nat} {vf : ByteArray → Option Int} (g : VersM w mv K vf) {x : ByteArray} (hs : x.size ≤ maxLen) (ty : TypeId) :
    ∃ w', (Builtin.delete_ #[69, 9] ty #[.map (some mv), .string x]).run Tryz.prog w = .ok (.tuple #[]) w' ∧ VersM w' mv K (fun a => if x = a then none else vf a) ∧ w.grownBy w' (some mv) := by
  obtain ⟨w', h1, h2, h3⟩ := OwnTold.drop g Tryz.underlying69 hs ty
  refine ⟨w', h1, h2.congr fun a => ?_, h3.grown⟩
  by_cases e : x = a
  · simp only [if_pos e]; rfl
  · simp only [if_neg e]
theorem VersM.put_ {w : World} {mv K : Nat} {vf : ByteArray → Option Int} (g : VersM w mv K vf) {x : ByteArray} (hs : x.size ≤ maxLen) (hK : K < maxLen) (v : Int) :
    ∃ w', (Instr.mapUpdate 69 (.map (some mv)) (.string x) (.int .i64 v)).run Tryz.prog w = .ok () w' ∧ VersM w' mv (K + 1) (fun a => if x = a then some v else vf a) ∧ w.grownBy w' (some mv) := by
  obtain ⟨w', h1, h2, h3⟩ := OwnTold.put g Tryz.underlying69 hK hs (.int .i64 v)
  refine ⟨w', h1, h2.congr fun a => ?_, h3.grown⟩
  by_cases e : x = a
  · simp only [if_pos e]; rfl
  · simp only [if_neg e]
theorem VersM.look_ {w : World} {mv K : Nat} {vf : ByteArray → Option Int} (g : VersM w mv K vf) {x : ByteArray} (hs : x.size ≤ maxLen) :
    (Instr.lookup 69 (.map (some mv)) (.string x) true).run Tryz.prog w = .ok (.tuple #[.int .i64 ((vf x).getD 0), .bool (vf x).isSome]) w := by
  have := OwnTold.look_ok g Tryz.underlying69 (zero_int_ w) hs
  cases e : vf x with
  | none => simpa [e] using this
  | some v => simpa [e] using this
theorem VersM.look1_ {w : World} {mv K : Nat} {vf : ByteArray → Option Int} (g : VersM w mv K vf) {x : ByteArray} (hs : x.size ≤ maxLen) :
    (Instr.lookup 69 (.map (some mv)) (.string x) false).run Tryz.prog w = .ok (.int .i64 ((vf x).getD 0)) w := by
  have := OwnTold.look g Tryz.underlying69 (zero_int_ w) hs
  cases e : vf x with
  | none => simpa [e] using this
  | some v => simpa [e] using this
theorem TriesIn.at_ {w : World} {B : Nat} {vt : Value} {F : List Tr} (g : TriesIn w B vt F) {i : Nat} {q : Tr} (hq : F[i]? = some q) :
    ∃ b cap cur, vt = .slice (some ⟨b, 0, none⟩) F.length cap ∧ B ≤ b ∧ F.length ≤ cap ∧ cap ≤ maxLen ∧ w.heap[b]? = some (.cells cur 140 (0, 0)) ∧ cur.size = cap * 3 ∧
      ∃ Al nl cl An nn cn, w.cell? ⟨b, i * 3, none⟩ = some (.string q.1) ∧ w.cell? ⟨b, i * 3 + 1, none⟩ = some (.slice Al nl cl) ∧ w.cell? ⟨b, i * 3 + 2, none⟩ = some (.slice An nn cn) ∧ nl ≤ cl ∧ IntT w Al nl q.2.1 ∧ InN w An nn q.2.2 := by
  obtain ⟨rs, ⟨g1, g2⟩, g3, g4⟩ := g
  have hi : i < F.length := (List.getElem?_eq_some_iff.1 hq).1
  rcases g2 with ⟨_, e⟩ | ⟨b, cap, cur, rfl, e2, e3, e4, e5, e6, e7⟩
  · omega
  · have hri : i < rs.length := by omega
    obtain ⟨f1, ⟨Al, nl, cl, f2, f3, f4⟩, An, nn, cn, f5, f7⟩ := g4 i rs[i] q (by simp) hq
    obtain ⟨t1, t2, t3⟩ := trcs_get rs i rs[i] (by simp)
    have hcell : ∀ j v, (trcs rs)[j]? = some v → w.cell? ⟨b, j, none⟩ = some v := fun j v hv => by
      rw [cell_of_row w b j cur 140 (0, 0) e3]
      have hj := (List.getElem?_eq_some_iff.1 hv).1
      rw [← e7, List.getElem?_take] at hv
      split at hv
      · rw [← Array.getElem?_toList]; exact hv
      · cases hv
    refine ⟨b, cap, cur, rfl, e2, e4, e5, e3, e6, Al, nl, cl, An, nn, cn, ?_, ?_, ?_, f3, f4, f7⟩
    · rw [hcell _ _ t1, f1]
    · rw [hcell _ _ t2, f2]
    · rw [hcell _ _ t3, f5]
section
variable {X : List Kn} {w0 : World} {b : Nat} {o : Option Addr} {K : Nat} {fuel : Int} {vf : ByteArray → Option Int} {O : List ByteArray} {F : List Tr} {vt : Value}
theorem Mem.askTo {B mr ma mv : Nat} {vo : Value} {h h' : ByteArray → List (List S)} {w w1 : World} (g : Mem X B mr ma mv vo vt K h vf O F w) (hg : w.grownBy w1 (some ma)) {K' : Nat} (hK : K ≤ K') (ha : AskM w1 B ma K' h') : Mem X B mr ma mv vo vt K' h' vf O F w1 := by
  obtain ⟨f, g1, _⟩ := g.ask
  have F0 := fun T => farT_ownF T g1
  obtain ⟨fr, r1, r2⟩ := g.read.far (row := some ma) (by simpa using g.ra) (F0 _) (F0 _) (F0 _) hg
  exact ⟨g.ra, g.rv, g.av, g.br, g.ba, g.bv, ⟨fr, r1.mono hK, r2⟩, ha, g.op.far (F0 _) hg, (OwnTold.kept g.vers hg (by simpa using g.av.symm)).mono hK, g.tries.far (F0 _) (F0 _) (F0 _) (F0 _) hg⟩
theorem AskM.farT {B ma : Nat} {h : ByteArray → List (List S)} {w : World} (g : AskM w B ma K h) (T : TypeId) : FarT w T (some ma) := by
  obtain ⟨f, g1, _⟩ := g
  exact farT_ownF T g1
def Drops (X : List Kn) (w0 : World) (b : Nat) (o : Option Addr) (K : Nat) (fuel : Int) (h0 : ByteArray → List (List S)) (vf : ByteArray → Option Int) (P O : List ByteArray) (F : List Tr) (vt : Value) (nm : ByteArray) (w : World) (e : Ending) (w' : World) : Prop :=
  e = .returned (.tuple #[]) ∧ (∃ O', Srch X w0 b o K fuel h0 (fun a => if nm = a then none else vf a) O' F vt w' ∧ OpenG h0 P O' ∧ O'.length ≤ O.length) ∧ Runs w w'
set_option maxHeartbeats 8000000 in
set_option maxRecDepth 100000 in
theorem dropP_any (h0 : ByteArray → List (List S)) (P : List ByteArray) (nm : ByteArray) (i0 : Nat) (left : List Int) (N : List Nd) (tb : Nat) (nt ct : Nat) (w : World)
    (g : Srch X w0 b o K fuel (fun a => addH (h0 a) (findS N a)) vf O F vt w) (hvt : vt = .slice (some ⟨tb, 0, none⟩) nt ct) (hF : F[i0]? = some (nm, left, N)) (hN : okS N = true) (hNs : ∀ q ∈ N, q.1.size ≤ 100)
    (ho : OpenG (fun a => addH (h0 a) (findS N a)) P O) (hP : ∀ a ∈ P, h0 a ≠ []) (hO : O.length ≤ 1000000) (hK : K ≤ 1000000) (hh : ∀ a, (addH (h0 a) (findS N a)).length ≤ K) (hnm : nm.size ≤ 1000000000) :
    Calls Tryz.prog 79 #[.pointer (some ⟨b, 0, none⟩), .pointer (some ⟨tb, i0 * 3, none⟩)] w (Drops X w0 b o K fuel h0 vf P O F vt nm w) := by
  have hmx : maxLen = 9223372036854775807 := by unfold maxLen; omega
  obtain ⟨mr, ma, mv, vo, hb, hm, hBb, hbw⟩ := g
  obtain ⟨tb', cap, cur, e1, htB, htc, htm, htb, htz, Al, nl, cl, An, nn, cn, k0, k1, k2, hl1, hl2, hn2⟩ := hm.tries.at_ hF
  rw [hvt] at e1
  injection e1 with e1 _ _
  injection e1 with e1
  injection e1 with e1 _ _
  subst e1
  have hm5 : w.cell? ⟨b, 5, none⟩ = some (.map (some mv)) := hb.cell 5
  obtain ⟨w1, hdel, hv1, hg1⟩ := VersM.del_ (w := w.drew) hm.vers (x := nm) (by omega) 0
  have F1 : ∀ T, FarT w.drew T (some mv) := fun T => farT_ownF (w := w.drew) T hm.vers
  have hm1 := (hm.below (w1 := w.drew) (Below.refl _ _).drew).versTo hg1 (Nat.le_refl K) hv1
  have hb1 := Blk.grown (w := w.drew) hb hg1 (F1 _ _ _ _ hb)
  have hw1 : Below w0.heap.size w0 w1 := Below.grown hbw.drew hg1 hbw.size (fun r e => by injection e with e; rw [← e]; exact hm.bv)
  have hrun1 : Runs w w1 := (Runs.of_below (w := w) (w1 := w.drew) (Below.refl _ _).drew).step hg1 fun T _ => F1 T
  have ky : w1.cell? ⟨tb, i0 * 3 + 2, none⟩ = some (.slice An nn cn) := (World.cell?_of_block (hg1.block tb (Array.getElem?_eq_some_iff.1 htb).1 (F1 _ _ _ _ htb))).trans k2
  have hNl : N.length = nn := hn2.on.len
  have hNr := (okS_parts hN).2.2.1
  have hNl6 := (okS_parts hN).2.1
  have HSt : Srch X w0 b o K fuel (fun a => addH (h0 a) (findS (N.drop 0) a)) (fun a => if nm = a then none else vf a) O F vt w1 := ⟨mr, ma, mv, vo, hb1, hm1, hBb, hw1⟩
  have HOp : OpenG (fun a => addH (h0 a) (findS (N.drop 0) a)) P O := ho
  have Hst := hide HSt
  have Hop := hide HOp
  have HN2 := hide hn2
  have Hh := hide hh
  generalize hvf : (fun a => if nm = a then none else vf a) = vf' at *
  clear HSt HOp hn2 hm hb hv1 hm1 hb1 hw1 hbw ho hh htb
  unfold Drops
  rw [hvf]
  clear hvf
  go_enter Tryz.func79, Tryz.ntmps79
  go_wp2
  go_region
  go_wp2
  go_loopw [22] (fun v wr => ∃ (i : Nat) (O' : List ByteArray), i ≤ nn ∧ v = .int .i64 (i : Int) ∧ Srch X w0 b o K fuel (fun a => addH (h0 a) (findS (N.drop i) a)) vf' O' F vt wr ∧ OpenG (fun a => addH (h0 a) (findS (N.drop i) a)) P O' ∧ O'.length ≤ O.length ∧ Runs w wr) (fun v _ => nn - (RowKit.intOf v).toNat)
  case atStart => exact ⟨0, O, by omega, rfl, Hst.out, Hop.out, Nat.le_refl _, hrun1⟩
  case round =>
    obtain ⟨i, O', hi, rfl, hS, hOp, hOl, hR⟩ := hrel
    clear Hst Hop hrun1 k0 k1 k2 ky hm5 hdel
    by_cases hlt : i < nn
    · obtain ⟨mr, ma, mv, vo, hb, hm, hBb, hbw⟩ := hS
      obtain ⟨ad, q, A', n', c', rfl, hbl, hx, hss, c1, c2⟩ := NdIn.at_ (hR.inN HN2.out).on hlt
      have hq := hNs q (List.mem_of_getElem? hx)
      obtain ⟨s', hs'⟩ := drop_last hx (h0 q.1)
      have hds := fun a => drop_step hNr hx h0 a
      obtain ⟨x, s⟩ := q
      simp only [] at c1 c2 hq hs' hds
      have hhx : addH (h0 x) (findS (N.drop i) x) ≠ [] := by rw [hs']; simp
      obtain ⟨A, c, hLc, hcm, Hlk, Hup⟩ := hm.ask.cut_ (x := x) (by omega) hhx (by omega)
      have hLe : (addH (h0 x) (findS (N.drop i) x)).length = (h0 x).length + 1 := by rw [hs']; simp
      have hLb : (addH (h0 x) (findS (N.drop i) x)).length ≤ 1000000 := by
        have h1 := Hh.out x
        have h2 : (h0 x).length + 1 ≤ (addH (h0 x) (findS N x)).length := by
          have h3 := find_mem hNr (List.mem_of_getElem? hx)
          simp only [] at h3
          rw [h3]
          simp [addH]
        omega
      obtain ⟨W, hW⟩ : ∃ W, W = wr.alloc (.cells #[.string x, .slice A' n' c'] 54) := ⟨_, rfl⟩
      have hWb : Below wr.heap.size wr W := by rw [hW]; exact alloc_bw _ _
      have hd : Blk W wr.heap.size 54 #[.string x, .slice A' n' c'] := by rw [hW]; exact Blk.new _ _ _
      have hbW := hb.below hWb hb.lt
      have hmW := hm.below hWb
      have hbwW := hbw.trans (hWb.mono hbw.size)
      have hRW := hR.trans (.of_below hWb)
      have hl1 := Hlk W.drew hWb.drew
      obtain ⟨w5, hup, ha5, hg5⟩ := Hup W.drew.drew hWb.drew.drew
      have F5 : ∀ T, FarT W.drew.drew T (some ma) := fun T => AskM.farT (w := W.drew.drew) hmW.ask T
      have j0 : W.cell? ⟨wr.heap.size, 0, none⟩ = some (.string x) := hd.cell 0
      have j3 : W.cell? ⟨b, 3, none⟩ = some (.map (some ma)) := hbW.cell 3
      have hm5 := (hmW.below (w1 := W.drew.drew) (Below.refl _ _).drew.drew).askTo hg5 (Nat.le_refl K) ha5
      have hb5 := Blk.grown (w := W.drew.drew) hbW hg5 (F5 _ _ _ _ hbW)
      have hd5 := Blk.grown (w := W.drew.drew) hd hg5 (F5 _ _ _ _ hd)
      have hw5 : Below w0.heap.size w0 w5 := Below.grown hbwW.drew.drew hg5 hbwW.size (fun r e => by injection e with e; rw [← e]; exact hm.ba)
      have hR5 := (hRW.trans (Runs.of_below (w := W) (w1 := W.drew.drew) (Below.refl _ _).drew.drew)).step hg5 fun T _ => F5 T
      obtain ⟨L, hL⟩ : ∃ L, L = (addH (h0 x) (findS (N.drop i) x)).length := ⟨_, rfl⟩
      rw [← hL] at hl1 hup hLc hLe hLb
      have i2 : IntKind.i64.wrap ((L : Int) - 1) = ((L - 1 : Nat) : Int) := by rw [IntKind.wrap_i64]; omega
      have i3 : (0 : Int) ≤ ((L - 1 : Nat) : Int) := by omega
      have i4 : ((L - 1 : Nat) : Int) ≤ (c : Int) := by omega
      have i5 : (((L - 1 : Nat) : Int)).toNat = L - 1 := by omega
      have e5 : ∀ a, (if x = a then (addH (h0 a) (findS (N.drop i) a)).dropLast else addH (h0 a) (findS (N.drop i) a)) = addH (h0 a) (findS (N.drop (i + 1)) a) := fun a => (hds a).symm
      have hm5 := hm5.congr e5 (fun _ => rfl)
      clear Hlk Hup ha5 F5 hbw hm hb hbW hmW hbwW hRW hx hss hL hd
      by_cases h1 : L = 1
      · have g0 : h0 x = [] := List.eq_nil_of_length_eq_zero (by omega)
        have hxP : x ∉ P := fun g => hP x g g0
        have hxO : x ∈ O' := (hOp.2 x).2 ⟨hhx, hxP⟩
        have hOr := hOp.1
        have hop5 : OpenG (fun a => addH (h0 a) (findS (N.drop (i + 1)) a)) P (remN x O') := hOp.last (by rw [← e5 x, if_pos rfl, hs', g0]; rfl) (fun a e => by rw [← e5 a, if_neg e])
        have hrl : (remN x O').length ≤ O'.length := List.length_filter_le _ _
        clear hOp hds e5 hhx g0 hxP hs'
        have i6 : ((L : Int) == 1) = true := beq_iff_eq.2 (by omega)
        clear hLe h1
        obtain ⟨A3, n3, c3, rfl⟩ : ∃ A n c, vo = .slice A n c := by
          rcases hm5.op with ⟨e, _⟩ | ⟨g, off, cap, N, f, e, _⟩
          · exact ⟨_, _, _, e⟩
          · exact ⟨_, _, _, e⟩
        have hn3 : n3 ≤ 1000000 := by rw [← hm5.op.len.1]; omega
        have HB := hide (fun (wx : World) (h1 : TxRow wx w0.heap.size (.slice A3 n3 c3) O') => bsearchO_any O' x w0.heap.size A3 n3 c3 wx h1 hOr hn3)
        have HD := hide (fun (wx : World) (h1 : TxRow wx w0.heap.size (.slice A3 n3 c3) O') => deleteO_any O' x w0.heap.size A3 n3 c3 wx h1 hOr hxO hn3)
        have HE := hide (fun (wx : World) (h1 : Below w5.heap.size w5 wx) => (⟨(hb5.below h1 hb5.lt).cell 4, (hd5.below h1 hd5.lt).cell 0⟩ : wx.cell? ⟨b, 4, none⟩ = some (.slice A3 n3 c3) ∧ wx.cell? ⟨wr.heap.size, 0, none⟩ = some (.string x)))
        have haN : atN x O' < O'.length := (List.getElem?_eq_some_iff.1 (atN_get hOr hxO)).1
        have i7 : IntKind.i64.wrap (((atN x O' : Nat) : Int) + 1) = ((atN x O' + 1 : Nat) : Int) := by rw [IntKind.wrap_i64]; omega
        have kd5 : Below w5.heap.size w5 w5.drew := (Below.refl _ _).drew
        have kc := HE.out w5 (Below.refl _ _)
        have kcd := HE.out _ kd5
        clear hOr hxO
        go_upto_region 4 with fail
        rw [← hW]
        clear hW
        go_region
        go_wp2
        go_region
        go_wp2
        go_region_held3 (fun w' => w'.cell? ⟨b, 4, none⟩ = some (.slice A3 n3 c3) ∧ w'.cell? ⟨wr.heap.size, 0, none⟩ = some (.string x)) (first | exact kc6 | exact kcd | exact kc | go_keep)
          (first
            | (go_at_call 96
               refine (HB.out _ (hm5.below kd5).op).mono ?_
               rintro e w6 ⟨⟨bb, rfl⟩, hb6⟩
               have hb6k : Below w5.heap.size w5 w6 := kd5.trans hb6
               have kc6 := HE.out _ hb6k))
        have hm6 := hm5.below hb6k
        have hb6x := hb5.below hb6k hb5.lt
        have hw6 := hw5.trans (hb6k.mono hw5.size)
        have hR6 := hR5.trans (.of_below hb6k)
        have kd6 : w6.cell? ⟨b, 4, none⟩ = some (.slice A3 n3 c3) := hb6x.cell 4
        clear kc kcd kc6 HE HB kd5 i2 i3 i4 i5 hl1 hup
        go_wp2_with (first
          | (go_at_call 102
             refine (HD.out _ hm6.op).mono ?_
             rintro e w7 ⟨A4, n4, c4, rfl, ho7, hg7⟩
             obtain ⟨hb7, hs7, hr7, _⟩ := srch_open hb6x hm6 hBb hw6 hg7 ho7
             have kd7 : w7.cell? ⟨b, 4, none⟩ = some (.slice A3 n3 c3) := hb7.cell 4
             have kf7 := hb7.frozen 4))
        go_roundw
        case rel => exact ⟨i + 1, remN x O', by omega, by go_num, hs7.srch, hop5, by omega, hR6.trans hr7⟩
        case measure => simp [RowKit.intOf]; omega
      · have i6 : ((L : Int) == 1) = false := beq_eq_false_iff_ne.2 (by omega)
        have hop5 : OpenG (fun a => addH (h0 a) (findS (N.drop (i + 1)) a)) P O' := hOp.more fun a => by
          by_cases e : x = a
          · subst e
            have h2 : h0 x ≠ [] := fun g => by rw [g] at hLe; exact h1 hLe
            exact ⟨fun _ => addH_ne _ h2, fun _ => addH_ne _ h2⟩
          · rw [← e5 a, if_neg e]
        clear hOp hds e5 hhx hLe h1 hs'
        go_upto_region 4 with fail
        rw [← hW]
        clear hW
        go_region
        go_wp2
        go_region
        go_wp2
        go_roundw
        case rel => exact ⟨i + 1, O', by omega, by go_num, ⟨mr, ma, mv, vo, hb5, hm5, hBb, hw5⟩, hop5, hOl, hR5⟩
        case measure => simp [RowKit.intOf]; omega
    · have hi2 : i = nn := by omega
      subst hi2
      subst hNl
      have e0 : ∀ a, addH (h0 a) (findS (N.drop N.length) a) = h0 a := fun a => by rw [List.drop_length]; rfl
      have hS2 : Srch X w0 b o K fuel h0 vf' O' F vt wr := by
        have e1 : (fun a => addH (h0 a) (findS (N.drop N.length) a)) = h0 := funext e0
        rw [e1] at hS
        exact hS
      have hOp2 : OpenG h0 P O' := hOp.congr e0
      clear hS hOp
      go_wp2
      refine ⟨rfl, .tuple #[], results_none rfl _ _ _, ?_⟩
      exact ⟨rfl, ⟨O', hS2, hOp2, hOl⟩, hR⟩
end
end Go.Proofs.YtmoeilkaadnnoaaGreat.Plain
/-
  The contract of the search's ask: needs are asked for, too. Condition: needs that may be; names of at most 1,000,000,000 bytes, at most 1,000,000 open ones.
-/
namespace Go.Proofs.YtmoeilkaadnnoaaGreat.Plain
open Go Go.RowKit Go.Lib Go.Sort Go.Proofs.YtmoeilkaadnnoaaGreat.Span Go.Proofs.YtmoeilkaadnnoaaGreat.Need Go.Proofs.YtmoeilkaadnnoaaGreat.Mani Go.Proofs.YtmoeilkaadnnoaaGreat.Wire Go.Proofs.YtmoeilkaadnnoaaGreat.Depot Go.Proofs.YtmoeilkaadnnoaaGreat.Index Go.Proofs.YtmoeilkaadnnoaaGreat.Reach Go.Proofs.YtmoeilkaadnnoaaGreat.Pick Go.Proofs.YtmoeilkaadnnoaaGreat.Fit Go.Proofs.YtmoeilkaadnnoaaGreat.MapV
set_option linter.unusedVariables false
theorem info_spans : (Tryz.prog.info? 46).map (fun i => (i.zero, i.size, i.bytes)) = some (some (.slice none 0 0), 1, 24) := by kernel_rfl
theorem AskAt.look_ {w : World} {B ma K : Nat} {h : ByteArray → List (List S)} {x : ByteArray} {A : Option Addr} {c : Nat} {sv : List Value} (g : AskAt w B ma K h x A c sv) (hs : x.size ≤ maxLen) :
    (Instr.lookup 68 (.map (some ma)) (.string x) false).run Tryz.prog w = .ok (.slice A (h x).length c) w := by
  obtain ⟨f, g1, g2, g3, g4, e1, _⟩ := g
  have := OwnTold.look g1 Tryz.underlying68 (zero_hist _) hs
  rw [e1] at this
  exact this
theorem AskAt.row {w : World} {B ma K : Nat} {h : ByteArray → List (List S)} {x : ByteArray} {A : Option Addr} {c : Nat} {sv : List Value} (g : AskAt w B ma K h x A c sv) :
    (h x).length ≤ c ∧ c ≤ maxLen ∧ w.ownsRow B 46 1 (.slice A (h x).length c) (h x).length sv ∧ ∀ k, (Value.slice A (h x).length c).ownBlock = some k → B ≤ k ∧ k < w.heap.size ∧ k ≠ ma := by
  obtain ⟨f, g1, g2, g3, g4, e1, hc, hm, h6, h7⟩ := g
  refine ⟨hc, hm, h6, fun k hk => ?_⟩
  have hl := h6.lt k hk
  refine ⟨hl.1, hl.2, fun e => ?_⟩
  subst e
  obtain ⟨es, clock, hb⟩ := g1.block
  rcases h6.2 with ⟨e, _⟩ | ⟨q, cap, cur, e, _, hq, _⟩
  · rw [e] at hk; cases hk
  · rw [e] at hk
    injection hk with hk
    subst hk
    rw [hb] at hq
    cases hq
theorem AskAt.add_ {w wy : World} {B ma K : Nat} {h : ByteArray → List (List S)} {x : ByteArray} {A : Option Addr} {c : Nat} {sv : List Value} (g : AskAt w B ma K h x A c sv) (hs : x.size ≤ maxLen) (hK : K < maxLen) {v' : Value} {A9 : Option Addr} {n9 c9 : Nat} {t : List S}
    (hg : w.grownBy wy (Value.slice A (h x).length c).ownBlock) (hv : v'.ownBlock = (Value.slice A (h x).length c).ownBlock ∨ v'.ownBlock = some w.heap.size) (hown : wy.ownsRow B 46 1 v' ((h x).length + 1) (sv ++ [.slice A9 n9 c9])) (hi : InS w 0 A9 n9 t) :
    ∃ wz, (Instr.mapUpdate 68 (.map (some ma)) (.string x) v').run Tryz.prog wy = .ok () wz ∧ AskM wz B ma (K + 1) (fun a => if x = a then h a ++ [t] else h a) ∧ wy.grownBy wz (some ma) := by
  have hma := g.row.2.2.2
  obtain ⟨f, g1, g2, g3, g4, e1, hc, hm, h6, h7⟩ := g
  have hb : Below w.heap.size w w := Below.refl _ _
  obtain ⟨wx, hwx⟩ : ∃ wx, wx = w := ⟨_, rfl⟩
  rw [← hwx] at hb hg hi hv
  rw [hwx] at hb
  rw [← hwx] at g1 g3 h6 h7 hma
  have hb : Below wx.heap.size wx wx := Below.refl _ _
  have g1x := g1.below hb
  have hne : some ma ≠ (Value.slice A (h x).length c).ownBlock := fun e => (hma ma e.symm).2.2 rfl
  have g1y := g1x.kept hg hne
  have F0 := fun T => farT_ownF T g1y
  have FS : FarT wx 61 (Value.slice A (h x).length c).ownBlock := farT_own (own_below h6 hb) (by decide)
  obtain ⟨wz, h1, h2, h3⟩ := g1y.put Tryz.underlying68 hK hs v'
  have oth : ∀ a u, x ≠ a → f a = some u → HistIn wz B u (h a) ∧ ∀ k, u.ownBlock = some k → k < wx.heap.size ∧ (Value.slice A (h x).length c).ownBlock ≠ some k := fun a u hxa ha => by
    have hu := g3 a u ha
    have hdis : ∀ k, u.ownBlock = some k → k < wx.heap.size ∧ (Value.slice A (h x).length c).ownBlock ≠ some k := fun k hk => by
      obtain ⟨sv', u6, _⟩ := hu
      refine ⟨(u6.lt k hk).2, ?_⟩
      cases e : f x with
      | none => rw [e] at e1; rw [← e1]; intro e; cases e
      | some v =>
        rw [e] at e1
        have e1 : v = .slice A (h x).length c := e1
        rw [← e1]
        exact g4 a x u v (fun e => hxa e.symm) ha e k hk
    have hux : HistIn wx B u (h a) := hu.far (farT_none _ _) (farT_none _ _) (only_of_below hb none)
    have huy := hux.beside (fun k hk e => (hdis k hk).2 e.symm) FS hg
    exact ⟨huy.far (F0 _) (F0 _) h3.grown, hdis⟩
  have hfr : ∀ a u, x ≠ a → f a = some u → ∀ k, u.ownBlock = some k → v'.ownBlock ≠ some k := fun a u hxa ha k hk e => by
    obtain ⟨o1, o2⟩ := (oth a u hxa ha).2 k hk
    rcases hv with hv | hv
    · exact o2 (hv.symm.trans e)
    · rw [hv] at e
      injection e with e
      have := hb.size
      omega
  refine ⟨wz, h1, ⟨_, h2, fun a ha => ?_, fun a u ha => ?_, fun a b u v hab ha hb2 => ?_⟩, h3.grown⟩
  · by_cases ex : x = a
    · simp only [if_pos ex] at ha
      cases ha
    · simp only [if_neg ex] at ha ⊢
      exact g2 a ha
  · by_cases ex : x = a
    · simp only [if_pos ex] at ha ⊢
      injection ha with ha
      subst ex ha
      have hay : AllH wy (sv ++ [.slice A9 n9 c9]) (h x ++ [t]) := by
        have h8 := (h7.far (farT_none _ _) (only_of_below hb none)).far FS hg
        have hi2 := insFar hi FS hg
        refine ⟨by rw [List.length_append, List.length_append, h8.1]; rfl, fun i y s hy hs2 => ?_⟩
        by_cases hlt : i < sv.length
        · rw [List.getElem?_append_left hlt] at hy
          rw [List.getElem?_append_left (by rw [← h8.1]; exact hlt)] at hs2
          exact h8.2 i y s hy hs2
        · rw [List.getElem?_append_right (by omega)] at hy
          rw [List.getElem?_append_right (by rw [← h8.1]; omega)] at hs2
          have e0 : i - sv.length = 0 := by
            have := (List.getElem?_eq_some_iff.1 hy).1
            simp at this
            omega
          rw [e0] at hy
          rw [← h8.1, e0] at hs2
          injection hy with hy
          injection hs2 with hs2
          subst hy hs2
          exact ⟨A9, n9, c9, rfl, hi2⟩
      have hn : HistIn wy B v' (h x ++ [t]) := ⟨_, by rw [List.length_append]; exact hown, hay⟩
      exact hn.far (F0 _) (F0 _) h3.grown
    · simp only [if_neg ex] at ha ⊢
      exact (oth a u ex ha).1
  · by_cases ex : x = a
    · simp only [if_pos ex] at ha
      injection ha with ha
      subst ex ha
      simp only [if_neg hab] at hb2
      exact fun k hk e => hfr b v hab hb2 k e hk
    · simp only [if_neg ex] at ha
      by_cases eb : x = b
      · simp only [if_pos eb] at hb2
        injection hb2 with hb2
        subst eb hb2
        exact fun k hk => hfr a u ex ha k hk
      · simp only [if_neg eb] at hb2
        exact g4 a b u v hab ha hb2
section
variable {X : List Kn} {w0 : World} {b : Nat} {o : Option Addr} {K : Nat} {fuel : Int} {vf : ByteArray → Option Int} {O : List ByteArray} {F : List Tr} {vt : Value}
theorem Srch.mono {h : ByteArray → List (List S)} {w : World} {K' : Nat} (g : Srch X w0 b o K fuel h vf O F vt w) (hK : K ≤ K') : Srch X w0 b o K' fuel h vf O F vt w := by
  obtain ⟨mr, ma, mv, vo, h1, h2, h3⟩ := g
  exact ⟨mr, ma, mv, vo, h1, h2.mono hK, h3⟩
theorem Mem.askRow {B mr ma mv : Nat} {vo : Value} {h h' : ByteArray → List (List S)} {w w1 w2 : World} (g : Mem X B mr ma mv vo vt K h vf O F w) {v : Value} {n : Nat} {sv : List Value} (hown : w.ownsRow B 46 1 v n sv) (hg : w.grownBy w1 v.ownBlock) (hg2 : w1.grownBy w2 (some ma)) {K' : Nat} (hK : K ≤ K') (ha : AskM w2 B ma K' h') : Mem X B mr ma mv vo vt K' h' vf O F w2 := by
  obtain ⟨fa, a1, _⟩ := g.ask
  obtain ⟨fr0, r0, _⟩ := g.read
  have hrow : ∀ k, v.ownBlock = some k → ∃ cur T m, w.heap[k]? = some (.cells cur T m) := fun k hk => by
    rcases hown.2 with ⟨e, _⟩ | ⟨q, cap, cur, e, _, hq, _⟩
    · rw [e] at hk; cases hk
    · rw [e] at hk
      injection hk with hk
      subst hk
      exact ⟨cur, _, _, hq⟩
  have Fr := fun (T : TypeId) (hT : T ≠ 46) => farT_own hown hT
  have a2 := a1.kept hg (ne_map_far a1 hrow)
  have F0 := fun T => farT_ownF T a2
  obtain ⟨fr, r1, r2⟩ := (g.read.far (ne_map_far r0 hrow) (Fr _ (by decide)) (Fr _ (by decide)) (Fr _ (by decide)) hg).far (row := some ma) (by simpa using g.ra) (F0 _) (F0 _) (F0 _) hg2
  exact ⟨g.ra, g.rv, g.av, g.br, g.ba, g.bv, ⟨fr, r1.mono hK, r2⟩, ha, (g.op.far (Fr _ (by decide)) hg).far (F0 _) hg2, (OwnTold.kept (OwnTold.kept g.vers hg (ne_map_far g.vers hrow)) hg2 (by simpa using g.av.symm)).mono hK, (g.tries.far (Fr _ (by decide)) (Fr _ (by decide)) (Fr _ (by decide)) (Fr _ (by decide)) hg).far (F0 _) (F0 _) (F0 _) (F0 _) hg2⟩
theorem need_at {w w' : World} {An : Option Addr} {nn k : Nat} {N : List Nd} (hN : InN w An nn N ∨ NdOn w0 An nn N) (hR : Runs w w') (hb : Below w0.heap.size w0 w') (hk : k < nn) :
    ∃ ad q A' n' c', An = some ad ∧ N[k]? = some q ∧ w'.cell? (ad.add (k * 2)) = some (.string q.1) ∧ w'.cell? ⟨(ad.add (k * 2)).block, (ad.add (k * 2)).off + 1, none⟩ = some (.slice A' n' c') ∧ ∀ wx, Runs w' wx → Below w0.heap.size w0 wx → SpOn wx A' n' q.2 := by
  rcases hN with h | h
  · obtain ⟨rs, h1, h2, _⟩ := hR.inN h
    obtain ⟨ad, hA, _, hc⟩ := h1.2 (by omega)
    have hr : k < rs.length := by have := h1.1; rw [rcs_length] at this; omega
    have hl : k < N.length := by have := h2.1; omega
    obtain ⟨e1, A', n', c', e2, hs⟩ := h2.2 k rs[k] (N[k]'hl) (by simp) (by simp)
    obtain ⟨g1, g2⟩ := rcs_get rs k rs[k] (by simp)
    refine ⟨ad, N[k]'hl, A', n', c', hA, by simp, ?_, ?_, fun wx hx _ => (hx.inS hs).1⟩
    · rw [← e1]; exact hc _ _ g1
    · rw [← Span.add_field, ← e2]; exact hc _ _ g2
  · obtain ⟨ad, q, A', n', c', hA, hlt, hq, hs, k1, k2⟩ := NdIn.at_ h hk
    have hlt1 : (ad.add (k * 2)).block < w0.heap.size := by rw [block_of_add]; exact hlt
    exact ⟨ad, q, A', n', c', hA, hq, (hb.cell (p := ad.add (k * 2)) hlt1).trans k1, (hb.cell (p := ⟨(ad.add (k * 2)).block, (ad.add (k * 2)).off + 1, none⟩) hlt1).trans k2, fun wx _ hx => SpOn.on hs hx⟩
theorem Srch.below {h : ByteArray → List (List S)} {w w1 : World} (g : Srch X w0 b o K fuel h vf O F vt w) (hb : Below w.heap.size w w1) : Srch X w0 b o K fuel h vf O F vt w1 := by
  obtain ⟨mr, ma, mv, vo, h1, h2, h3, h4⟩ := g
  exact ⟨mr, ma, mv, vo, h1.below hb h1.lt, h2.below hb, h3, h4.trans (hb.mono h4.size)⟩
def Asks (X : List Kn) (w0 : World) (b : Nat) (o : Option Addr) (K : Nat) (fuel : Int) (h0 : ByteArray → List (List S)) (vf : ByteArray → Option Int) (P O : List ByteArray) (F : List Tr) (vt : Value) (N : List Nd) (w : World) (e : Ending) (w' : World) : Prop :=
  e = .returned (.bool (metN vf N)) ∧ (∃ O', Srch X w0 b o (K + 6) fuel (fun a => addH (h0 a) (findS N a)) vf O' F vt w' ∧ OpenG (fun a => addH (h0 a) (findS N a)) P O' ∧ O'.length ≤ O.length + 6) ∧ FineH (K + 6) (fun a => addH (h0 a) (findS N a)) ∧ Runs w w'
set_option maxHeartbeats 16000000 in
set_option maxRecDepth 100000 in
theorem askS_any (h0 : ByteArray → List (List S)) (P : List ByteArray) (N : List Nd) (An : Option Addr) (nn cn : Nat) (w : World)
    (g : Srch X w0 b o K fuel h0 vf O F vt w) (hN1 : InN w An nn N ∨ NdOn w0 An nn N) (hN : okS N = true) (hNs : ∀ q ∈ N, q.1.size ≤ 100)
    (ho : OpenG h0 P O) (hP : ∀ a ∈ P, h0 a ≠ []) (hO : O.length + 6 ≤ 1000000) (hK : K + 6 ≤ 1000000) (hf : FineH K h0) :
    Calls Tryz.prog 51 #[.pointer (some ⟨b, 0, none⟩), .slice An nn cn] w (Asks X w0 b o K fuel h0 vf P O F vt N w) := by
  have hmx : maxLen = 9223372036854775807 := by unfold maxLen; omega
  obtain ⟨i0, hi0, hz0, hz1, hz2⟩ := info_parts info_spans
  have hbw0 : Below w0.heap.size w0 w := by obtain ⟨_, _, _, _, _, _, _, h⟩ := g; exact h
  have hNl : N.length = nn := by
    rcases hN1 with h | h
    · exact h.on.len
    · exact h.len
  have hNr := (okS_parts hN).2.2.1
  have hNl6 := (okS_parts hN).2.1
  have hNset := hide (okS_parts hN).2.2.2
  have HNd := hide (fun (wx : World) (hr : Runs w wx) (hb : Below w0.heap.size w0 wx) (k : Nat) (hk : k < nn) => need_at hN1 hr hb hk)
  have HM := hide (fun (Ax Az : Option Addr) (nx cx nz cz : Nat) (a b : List S) (wx : World) (hx : SpOn wx Ax nx a) (hz : SpOn wx Az nz b) (ha : isSet (-1) a = true) (hb : isSet (-1) b = true) => @meet_any _ nx cx _ nz cz Ax Az a b wx hx hz (Nat.le_refl _) (Nat.le_refl _) ha hb)
  have HH := hide (fun (Ax : Option Addr) (nx cx : Nat) (a : List S) (p : Int) (wx : World) (hx : SpOn wx Ax nx a) (hn : nx ≤ 1000000001) => @Span.has_any _ nx cx Ax a p wx hx (Nat.le_refl _) hn)
  have Hst0 := hide g
  have Hop0 := hide ho
  have Hf0 := hide hf
  have HP := hide hP
  clear g ho hf hP hN hN1 hbw0
  unfold Asks
  go_enter Tryz.func51, Tryz.ntmps51
  go_wp2
  go_loopw [5, 13] (fun m v wr => ∃ (i : Nat) (O' : List ByteArray), i ≤ nn ∧ m = .bool (metN vf (N.take i)) ∧ v = .int .i64 (i : Int) ∧ Srch X w0 b o (K + i) fuel (fun a => addH (h0 a) (findS (N.take i) a)) vf O' F vt wr ∧ OpenG (fun a => addH (h0 a) (findS (N.take i) a)) P O' ∧ O'.length ≤ O.length + i ∧ FineH (K + i) (fun a => addH (h0 a) (findS (N.take i) a)) ∧ Runs w wr) (fun _ v _ => nn - (RowKit.intOf v).toNat)
  case atStart => exact ⟨0, O, by omega, rfl, rfl, Hst0.out, Hop0.out, by omega, Hf0.out, .refl w⟩
  case round =>
    obtain ⟨i, O', hi, rfl, rfl, hS, hOp, hOl, hFi, hR⟩ := hrel
    clear Hst0 Hop0 Hf0
    by_cases hlt : i < nn
    · obtain ⟨mr, ma, mv, vo, hb, hm, hBb, hbw⟩ := hS
      obtain ⟨ad, q, A', n', c', rfl, hx, c1, c2, hss⟩ := HNd.out wr hR hbw i hlt
      have hq := hNs q (List.mem_of_getElem? hx)
      have hqs := hNset.out q (List.mem_of_getElem? hx)
      have hst0 := fun a => ask_step hNr hx h0 a
      have hmt := metN_take (vf := vf) hx
      generalize hh : (fun a => addH (h0 a) (findS (N.take i) a)) = h at *
      have hst : ∀ a, addH (h0 a) (findS (N.take (i + 1)) a) = if q.1 = a then h a ++ [meetS (inH (h a)) q.2] else h a := fun a => by rw [← hh]; exact hst0 a
      have hPh : ∀ a ∈ P, h a ≠ [] := fun a ha => by rw [← hh]; exact addH_ne _ (HP.out a ha)
      clear hst0 hh
      obtain ⟨x, s⟩ := q
      simp only [] at c1 c2 hq hst hqs hmt
      obtain ⟨W, hW⟩ : ∃ W, W = wr.alloc (.cells #[.string x, .slice A' n' c'] 54) := ⟨_, rfl⟩
      have hWb : Below wr.heap.size wr W := by rw [hW]; exact alloc_bw _ _
      have hd : Blk W wr.heap.size 54 #[.string x, .slice A' n' c'] := by rw [hW]; exact Blk.new _ _ _
      have hbW := hb.below hWb hb.lt
      have hmW := hm.below hWb
      have hbwW := hbw.trans (hWb.mono hbw.size)
      have hRW := hR.trans (.of_below hWb)
      have HS := hide (fun (wx : World) (h1 : Runs W wx) (h2 : Below w0.heap.size w0 wx) => hss wx (Runs.trans (.of_below hWb) h1) h2)
      have hn6 : n' ≤ 6 := by have h1 : s.length = n' := (hss wr (.refl _) hbw).1; have h2 := hqs.2; omega
      have Hst := hide hst
      have Hmt := hide hmt
      have Hqs := hide hqs
      have HPh := hide hPh
      have HFi := hide hFi
      have HOp := hide hOp
      clear hss hb hm hbw hR hst hmt hqs hPh hFi hOp hx HP HNd hNset
      obtain ⟨A, c, sv, hat⟩ := hmW.ask.atX x
      have hat1 : AskAt W.drew w0.heap.size ma (K + i) h x A c sv := hat.below (Below.refl _ _).drew
      have hl1 := hat1.look_ (by omega)
      have hgW : SrchM X w0 b o (K + i) fuel h vf O' F vt mr ma mv W.drew := ⟨vo, hbW, hmW.below (Below.refl _ _).drew, hBb, hbwW.drew⟩
      have hRd : Runs w W.drew := hRW.trans (.of_below (Below.refl _ _).drew)
      have hdd : Blk W.drew wr.heap.size 54 #[.string x, .slice A' n' c'] := hd
      have j3 : W.cell? ⟨b, 3, none⟩ = some (.map (some ma)) := hbW.cell 3
      have j0 : W.cell? ⟨wr.heap.size, 0, none⟩ = some (.string x) := hd.cell 0
      have HSd : Hid (∀ (wx : World), Runs W.drew wx → Below w0.heap.size w0 wx → SpOn wx A' n' s) := hide (fun wx h1 h2 => HS.out wx (Runs.trans (.of_below (Below.refl _ _).drew) h1) h2)
      have hWs : wr.heap.size < W.heap.size := hd.lt
      have HW := hide hW
      clear hat hmW hbwW hRW HS hWb hd hW
      obtain ⟨L, hL⟩ : ∃ L, L = (h x).length := ⟨_, rfl⟩
      rw [← hL] at hl1
      have HL := hide hL
      clear hL
      by_cases h0L : L = 0
      case' pos =>
        have i6 : ((L : Int) == 0) = true := beq_iff_eq.2 (by omega)
        have hhx : h x = [] := List.eq_nil_of_length_eq_zero (by rw [← HL.out]; exact h0L)
        have hxP : x ∉ P := fun g => HPh.out x g hhx
        have HWt := hide (waitM_any x W.drew hgW HOp.out.1 (by omega))
        have hOp2 : OpenG (fun a => addH (h0 a) (findS (N.take (i + 1)) a)) P (insN x O') := HOp.out.first hhx (by rw [Hst.out x, if_pos rfl]; simp) (fun a e => by rw [Hst.out a, if_neg e]) hxP
        have hOl2 : (insN x O').length ≤ O.length + (i + 1) := by rw [insN_len]; omega
        clear hhx hxP HOp HPh h0L hgW
        go_upto_region 5 with fail
        rw [← HW.out]
        clear HW
        go_region
        go_upto_region 8 with (first
          | (go_at_call 73
             refine HWt.out.mono ?_
             rintro e V ⟨rfl, hgV, hrV, haV⟩
             have hRV := hRd.trans hrV
             have hatV := haV hat1
             have hdV := hrV.blk hdd (not_own (by decide))
             have HSV : Hid (∀ (wx : World), Runs V wx → Below w0.heap.size w0 wx → SpOn wx A' n' s) := hide (fun wx h1 h2 => HSd.out wx (hrV.trans h1) h2)))
      case' neg =>
        have i6 : ((L : Int) == 0) = false := beq_eq_false_iff_ne.2 (by omega)
        have hOp2 : OpenG (fun a => addH (h0 a) (findS (N.take (i + 1)) a)) P O' := HOp.out.more fun a => by
          rw [Hst.out a]
          by_cases e : x = a
          · subst e
            rw [if_pos rfl]
            have h2 : h x ≠ [] := fun g => h0L (by rw [HL.out, g]; rfl)
            exact ⟨fun _ => h2, fun _ => by simp⟩
          · rw [if_neg e]
        have hOl2 : O'.length ≤ O.length + (i + 1) := by omega
        clear HOp HPh h0L
        go_upto_region 5 with fail
        rw [← HW.out]
        clear HW
        go_region
        go_upto_region 8 with fail
        obtain ⟨V, hV⟩ : ∃ V, V = W.drew := ⟨_, rfl⟩
        have hgV := hgW
        have hRV := hRd
        have hatV := hat1
        have hdV := hdd
        have HSV := HSd
        rw [← hV] at hgV hRV hatV hdV HSV
        rw [← hV]
        clear hV hgW
      all_goals
        obtain ⟨vo2, hbV, hmV, _, hbwV⟩ := hgV
        have hset := HFi.out.in_ x
        have hkx : (h x).length ≤ 1000000 := by have := (HFi.out x).1; omega
        have HIn := hide (fun (wx : World) (h1 : Below V.heap.size V wx) => inP_any (F := F) (vt := vt) x wx ⟨mr, ma, mv, vo2, hbV.below h1 hbV.lt, hmV.below h1, hBb, hbwV.trans (h1.mono hbwV.size)⟩ hkx (by omega))
        unfold Makes at HIn
        have HE := hide (fun (wx : World) (h1 : Below V.heap.size V wx) => (⟨(hbV.below h1 hbV.lt).cell 3, (hdV.below h1 hdV.lt).cell 0, (hdV.below h1 hdV.lt).cell 1⟩ : wx.cell? ⟨b, 3, none⟩ = some (.map (some ma)) ∧ wx.cell? ⟨wr.heap.size, 0, none⟩ = some (.string x) ∧ wx.cell? ⟨wr.heap.size, 1, none⟩ = some (.slice A' n' c')))
        have kdV : Below V.heap.size V V.drew := (Below.refl _ _).drew
        have kc := HE.out V (Below.refl _ _)
        have kcd := HE.out _ kdV
        have h01 : 0 < 1 := by omega
        have hmx1 : L + 1 ≤ maxLen := by rw [HL.out]; omega
        have hby1 : (L + 1) * 24 ≤ 140737488355328 := by rw [HL.out]; omega
        have hVs : w0.heap.size ≤ V.heap.size := hbwV.size
        clear hl1 j3 j0 hat1 hkx
        go_region_held3 (fun w' => w'.cell? ⟨b, 3, none⟩ = some (.map (some ma)) ∧ w'.cell? ⟨wr.heap.size, 0, none⟩ = some (.string x) ∧ w'.cell? ⟨wr.heap.size, 1, none⟩ = some (.slice A' n' c')) (first | exact kc12 | exact kc11 | exact kc10 | exact kc9 | exact kc8 | exact kcd | exact kc | go_keep)
          (first
            | (go_at_call 74
               refine (HIn.out _ kdV).mono ?_
               rintro e w8 ⟨A8, n8, c8, rfl, hS8, hb8⟩
               have hb8k : Below V.heap.size V w8 := kdV.trans hb8
               have kc8 := HE.out _ hb8k
               have hsn8 := HSV.out w8 (.of_below hb8k) (hbwV.trans (hb8k.mono hVs)))
            | (go_at_call 40
               refine (HM.out _ _ _ _ _ _ _ _ _ hS8 hsn8 hset.1 Hqs.out.1).mono ?_
               rintro e w9 ⟨A9, n9, c9, rfl, hN9, hb9⟩
               have hb9k : Below V.heap.size V w9 := hb8k.trans (hb9.mono hb8k.size)
               have kc9 := HE.out _ hb9k
               have hb10k : Below V.heap.size V (w9.alloc (.cells #[.slice A9 n9 c9] 46)) := hb9k.alloc hb9k.size _
               have kc10 := HE.out _ hb10k
               have hat10 := hatV.below hb10k
               have hown10 : (w9.alloc (.cells #[.slice A9 n9 c9] 46)).ownsRow w0.heap.size 46 1 (.slice A L c) L sv := by rw [HL.out]; exact hat10.row.2.2.1
               have hrow10 : ∀ k, (Value.slice A L c).ownBlock = some k → w0.heap.size ≤ k := by rw [HL.out]; exact fun k hk => (hat10.row.2.2.2 k hk).1
               have hi10 : InS (w9.alloc (.cells #[.slice A9 n9 c9] 46)) 0 A9 n9 (meetS (inH (h x)) s) := (InS.of_new hN9).below (alloc_bw _ _)
               have hrd10 := Reads.new1 w9 46 (.slice A9 n9 c9)
               have hsz10 : w0.heap.size ≤ (w9.alloc (.cells #[.slice A9 n9 c9] 46)).heap.size := Nat.le_trans hVs hb10k.size
               have hbB := hbV.below hb10k hbV.lt
               have hdB := hdV.below hb10k hdV.lt)
            | (refine wp_append_any _ (.tmp 37) (.tmp 45) _ rfl w0.heap.size 46 i0 _ 1 24 Tryz.underlying133 hi0 hz0 hz1 hz2 rfl h01 _ L sv rfl hown10 _ _ 1 _ _ rfl hrd10 (fun u hu => by rw [List.mem_singleton.1 hu]; rfl) hmx1 hby1 hsz10 ?_
               intro v6 w6 hown6 hg6 hat6
               have hb6 := hbB.grown hg6 (farT_own hown10 (by decide) _ _ _ hbB)
               have hd6 := hdB.grown hg6 (farT_own hown10 (by decide) _ _ _ hdB)
               have kc11 : w6.cell? ⟨b, 3, none⟩ = some (.map (some ma)) ∧ w6.cell? ⟨wr.heap.size, 0, none⟩ = some (.string x) ∧ w6.cell? ⟨wr.heap.size, 1, none⟩ = some (.slice A' n' c') := ⟨hb6.cell 3, hd6.cell 0, hd6.cell 1⟩
               obtain ⟨w12, hup, ha12, hg12⟩ := hat10.add_ (by omega) (by omega) (by rw [← HL.out]; exact hg6) (by rw [← HL.out]; exact hat6) (by rw [← HL.out]; exact hown6) hi10
               have hm12 := (hmV.below hb10k).askRow hown10 hg6 hg12 (Nat.le_succ _) ha12
               have F6 : ∀ T, FarT w6 T (some ma) := by
                 obtain ⟨fa, a1, _⟩ := (hmV.below hb10k).ask
                 intro T
                 refine farT_ownF T (a1.kept hg6 fun e => ?_)
                 rw [HL.out] at e
                 exact (hat10.row.2.2.2 ma e.symm).2.2 rfl
               have hb12 := hb6.grown hg12 (F6 _ _ _ _ hb6)
               have hd12 := hd6.grown hg12 (F6 _ _ _ _ hd6)
               have kc12 : w12.cell? ⟨b, 3, none⟩ = some (.map (some ma)) ∧ w12.cell? ⟨wr.heap.size, 0, none⟩ = some (.string x) ∧ w12.cell? ⟨wr.heap.size, 1, none⟩ = some (.slice A' n' c') := ⟨hb12.cell 3, hd12.cell 0, hd12.cell 1⟩))
        have hw6 : Below w0.heap.size w0 w6 := Below.grown (hbwV.trans (hb10k.mono hVs)) hg6 hsz10 hrow10
        have hw12 : Below w0.heap.size w0 w12 := Below.grown hw6 hg12 hw6.size (fun r e => by injection e with e; rw [← e]; exact hmV.ba)
        have hR12 : Runs w w12 := ((hRV.trans (.of_below hb10k)).step hg6 fun T hT => farT_own hown10 (far_of own_spans hT)).step hg12 fun T _ => F6 T
        have hS12 : Srch X w0 b o (K + (i + 1)) fuel (fun a => addH (h0 a) (findS (N.take (i + 1)) a)) vf _ F vt w12 := ⟨mr, ma, mv, vo2, hb12, hm12.congr (fun a => by
          rw [Hst.out a]
          by_cases e : x = a
          · rw [if_pos e, if_pos e, e]
          · rw [if_neg e, if_neg e]) (fun _ => rfl), hBb, hw12⟩
        have hF12 : FineH (K + (i + 1)) (fun a => addH (h0 a) (findS (N.take (i + 1)) a)) := HFi.out.add Hqs.out.1 Hqs.out.2 Hst.out
        have hlv := hm12.vers.look_ (x := x) (by omega)
        have hlvd := VersM.look_ (w := w12.drew) hm12.vers (x := x) (by omega)
        have p5 : w12.cell? ⟨b, 5, none⟩ = some (.map (some mv)) := hb12.cell 5
        obtain ⟨p3, p0, p1⟩ := kc12
        have hsn : SpOn w12.drew A' n' s := HSV.out w12.drew ((((Runs.of_below hb10k).step hg6 fun T hT => farT_own hown10 (far_of own_spans hT)).step hg12 fun T _ => F6 T).trans (.of_below (Below.refl _ _).drew)) hw12.drew
        clear kc kcd kc8 kc9 kc10 kc11 HE HIn hup ha12 hm12 hat10 hown10 hrow10 hi10 hrd10 hsz10 hbB hdB hb6 hd6 F6 hg6 hg12 hat6 hown6 hw6 hS8 hsn8 hN9 hb8 hb8k hb9 hb9k hb10k kdV hbV hmV hatV hdV hRV hRd hdd HSd HSV hset
        cases hvx : vf x with
        | none =>
          rw [hvx] at hlv hlvd
          have hmt : metN vf (N.take (i + 1)) = metN vf (N.take i) := by rw [Hmt.out, hvx]; simp
          go_wp2
          go_region
          go_wp2
          go_roundw
          case rel => exact ⟨i + 1, _, by omega, by rw [hmt], by go_num, hS12.below (Below.refl _ _).drew, hOp2, hOl2, hF12, hR12.trans (.of_below (Below.refl _ _).drew)⟩
          case measure => simp [RowKit.intOf]; omega
        | some u =>
          rw [hvx] at hlv hlvd
          have HHx := hide (fun (wx : World) (hx : SpOn wx A' n' s) => HH.out A' n' c' s u wx hx (by omega))
          cases hhs : has s u with
          | true =>
            rw [hhs] at HHx
            have hmt : metN vf (N.take (i + 1)) = metN vf (N.take i) := by rw [Hmt.out, hvx]; simp [hhs]
            go_wp2
            go_region
            go_wp2_with (first
              | (go_at_call 75
                 refine (HHx.out _ hsn).mono ?_
                 rintro e w13 ⟨rfl, hb13⟩
                 have hb13k : Below w12.heap.size w12 w13 := (Below.refl _ _).drew.trans hb13
                 have hS13 := hS12.below hb13k
                 have hR13 := hR12.trans (.of_below hb13k)))
            go_roundw
            case rel => exact ⟨i + 1, _, by omega, by rw [hmt], by go_num, hS13, hOp2, hOl2, hF12, hR13⟩
            case measure => simp [RowKit.intOf]; omega
          | false =>
            rw [hhs] at HHx
            have hmt : metN vf (N.take (i + 1)) = false := by rw [Hmt.out, hvx]; simp [hhs]
            go_wp2
            go_region
            go_wp2_with (first
              | (go_at_call 75
                 refine (HHx.out _ hsn).mono ?_
                 rintro e w13 ⟨rfl, hb13⟩
                 have hb13k : Below w12.heap.size w12 w13 := (Below.refl _ _).drew.trans hb13
                 have hS13 := hS12.below hb13k
                 have hR13 := hR12.trans (.of_below hb13k)))
            go_roundw
            case rel => exact ⟨i + 1, _, by omega, by rw [hmt], by go_num, hS13, hOp2, hOl2, hF12, hR13⟩
            case measure => simp [RowKit.intOf]; omega
    · have hi2 : i = nn := by omega
      subst hi2
      subst hNl
      have e0 : N.take N.length = N := List.take_length
      rw [e0] at hS hOp hFi ⊢
      go_wp2
      go_ret
      exact ⟨rfl, ⟨O', hS.mono (by omega), hOp, by omega⟩, hFi.mono (by omega), hR⟩
end
end Go.Proofs.YtmoeilkaadnnoaaGreat.Plain
/-
  The contract of the search's next: the next version of a try is picked. Condition: what is known is looked at; names of at most 1,000,000,000 bytes.
-/
namespace Go.Proofs.YtmoeilkaadnnoaaGreat.Plain
open Go Go.RowKit Go.Lib Go.Sort Go.Proofs.YtmoeilkaadnnoaaGreat.Span Go.Proofs.YtmoeilkaadnnoaaGreat.Need Go.Proofs.YtmoeilkaadnnoaaGreat.Mani Go.Proofs.YtmoeilkaadnnoaaGreat.Wire Go.Proofs.YtmoeilkaadnnoaaGreat.Depot Go.Proofs.YtmoeilkaadnnoaaGreat.Index Go.Proofs.YtmoeilkaadnnoaaGreat.Reach Go.Proofs.YtmoeilkaadnnoaaGreat.Pick Go.Proofs.YtmoeilkaadnnoaaGreat.Fit Go.Proofs.YtmoeilkaadnnoaaGreat.MapV
set_option linter.unusedVariables false
section
variable {X : List Kn} {w0 : World} {b : Nat} {o : Option Addr} {K : Nat} {fuel : Int} {vf : ByteArray → Option Int} {O : List ByteArray} {F : List Tr} {vt : Value}
theorem TriesIn.set_ {w : World} {B : Nat} {tb nt ct : Nat} {nm : ByteArray} {L L' : List Int} {N N' : List Nd} {i : Nat} (g : TriesIn w B (.slice (some ⟨tb, 0, none⟩) nt ct) F) (hi : F[i]? = some (nm, L, N)) {Al An : Option Addr} {nl cl nn cn : Nat} (hl : nl ≤ cl) (hL : IntT w Al nl L') (hN : InN w An nn N') :
    TriesIn ((w.setCell ⟨tb, i * 3 + 1, none⟩ (.slice Al nl cl)).setCell ⟨tb, i * 3 + 2, none⟩ (.slice An nn cn)) B (.slice (some ⟨tb, 0, none⟩) nt ct) (F.set i (nm, L', N')) ∧ w.grownBy ((w.setCell ⟨tb, i * 3 + 1, none⟩ (.slice Al nl cl)).setCell ⟨tb, i * 3 + 2, none⟩ (.slice An nn cn)) (some tb) ∧ (∀ T, T ≠ 140 → FarT w T (some tb)) ∧ B ≤ tb := by
  obtain ⟨rs, ⟨g1, g2⟩, g3, g4⟩ := g
  have hiF : i < F.length := (List.getElem?_eq_some_iff.1 hi).1
  rcases g2 with ⟨_, e⟩ | ⟨b', cap, cur, e1, e2, e3, e4, e5, e6, e7⟩
  · omega
  · injection e1 with f1 f2 f3
    injection f1 with f1
    injection f1 with f1 _ _
    subst f1 f3
    have hblk : Blk w tb 140 cur := e3
    have hg : w.grownBy ((w.setCell ⟨tb, i * 3 + 1, none⟩ (.slice Al nl cl)).setCell ⟨tb, i * 3 + 2, none⟩ (.slice An nn cn)) (some tb) := only_setCell (p := ⟨tb, i * 3 + 2, none⟩) (only_setCell (p := ⟨tb, i * 3 + 1, none⟩) (only_self w tb) (.inl rfl) _) (.inl rfl) _
    have hF : ∀ T, T ≠ 140 → FarT w T (some tb) := fun T hT => farT_blk hblk hT
    have hb2 := (hblk.set_ (i * 3 + 1) (.slice Al nl cl)).set_ (i * 3 + 2) (.slice An nn cn)
    have hri : i < rs.length := by omega
    have hlen : (F.set i (nm, L', N')).length = F.length := List.length_set
    have hr1 : (rs[i]'hri).1 = nm := (g4 i rs[i] _ (by simp) hi).1
    have hset : ∀ (l : List Tv) (k : Nat) (r : Tv), k < l.length → trcs (l.set k r) = (((trcs l).set (k * 3) (.string r.1)).set (k * 3 + 1) r.2.1).set (k * 3 + 2) r.2.2 := by
      intro l
      induction l with
      | nil => intro k r hk; simp at hk
      | cons x t ih =>
        intro k r hk
        cases k with
        | zero => rfl
        | succ k =>
          rw [List.set_cons_succ, trcs, ih k r (by simpa using hk), trcs, show (k + 1) * 3 = k * 3 + 1 + 1 + 1 by omega]
          rfl
    refine ⟨⟨rs.set i (nm, .slice Al nl cl, .slice An nn cn), ⟨?_, .inr ⟨tb, ct, _, ?_, e2, hb2, ?_, e5, ?_, ?_⟩⟩, ?_, fun j r q hr hq => ?_⟩, hg, hF, e2⟩
    · rw [trcs_length, List.length_set, hlen, g3]
    · rw [hlen, ← f2]
    · rw [hlen]; exact e4
    · rw [Array.size_setIfInBounds, Array.size_setIfInBounds]; exact e6
    · rw [hlen, Array.toList_setIfInBounds, Array.toList_setIfInBounds, List.take_set, List.take_set, e7, hset rs i _ hri]
      have h0 : (trcs rs)[i * 3]? = some (.string nm) := by rw [(trcs_get rs i rs[i] (by simp)).1, hr1]
      have h1 : (trcs rs).set (i * 3) (.string nm) = trcs rs := by
        obtain ⟨hi3, e⟩ := List.getElem?_eq_some_iff.1 h0
        rw [← e]
        exact List.set_getElem_self hi3
      rw [h1]
    · rw [List.length_set, hlen, g3]
    · have hFs := hF 61 (by decide)
      have hFn := hF 54 (by decide)
      have hFi := hF 3 (by decide)
      by_cases e : i = j
      · subst e
        rw [List.getElem?_set_self hri] at hr
        rw [List.getElem?_set_self hiF] at hq
        injection hr with hr
        injection hq with hq
        subst hr hq
        exact ⟨rfl, ⟨Al, nl, cl, rfl, hl, hL.far hFi hg⟩, An, nn, cn, rfl, hN.far hFs hFn hg⟩
      · rw [List.getElem?_set_ne e] at hr hq
        obtain ⟨k1, ⟨A, n, c, k2, k3, k4⟩, A', n', c', k5, k7⟩ := g4 j r q hr hq
        exact ⟨k1, ⟨A, n, c, k2, k3, k4.far hFi hg⟩, A', n', c', k5, k7.far hFs hFn hg⟩
theorem Mem.tryTo {B mr ma mv : Nat} {vo : Value} {h : ByteArray → List (List S)} {F' : List Tr} {w w1 : World} {tb : Nat} (g : Mem X B mr ma mv vo vt K h vf O F w) (hg : w.grownBy w1 (some tb)) (hcell : ∃ cur T m, w.heap[tb]? = some (.cells cur T m)) (hF : ∀ T, T ≠ 140 → FarT w T (some tb)) (ht : TriesIn w1 B vt F') : Mem X B mr ma mv vo vt K h vf O F' w1 := by
  have hrow : ∀ k, some tb = some k → ∃ cur T m, w.heap[k]? = some (.cells cur T m) := fun k e => by
    injection e with e
    subst e
    exact hcell
  have e1 : some mr ≠ some tb := by obtain ⟨f, g1, _⟩ := g.read; exact ne_map_far g1 hrow
  have e2 : some ma ≠ some tb := by obtain ⟨f, g1, _⟩ := g.ask; exact ne_map_far g1 hrow
  have e3 : some mv ≠ some tb := ne_map_far g.vers hrow
  exact ⟨g.ra, g.rv, g.av, g.br, g.ba, g.bv, g.read.far e1 (hF _ (by decide)) (hF _ (by decide)) (hF _ (by decide)) hg, g.ask.far e2 (hF _ (by decide)) (hF _ (by decide)) hg, g.op.far (hF _ (by decide)) hg, OwnTold.kept g.vers hg e3, ht⟩
theorem needs_size {a : ByteArray} {v : Int} (hf : FineX X) {q : Nd} (hq : q ∈ needsX X a v) : q.1.size ≤ 100 := by
  unfold needsX relX at hq
  cases e : getR (getX X a).1 v with
  | none => rw [e] at hq; cases hq
  | some r => rw [e] at hq; exact (((hf.get a).2 r (getR_mem e).1).2 q hq).1
def Nexts (X : List Kn) (w0 : World) (b : Nat) (o : Option Addr) (K : Nat) (fuel : Int) (h0 : ByteArray → List (List S)) (vf : ByteArray → Option Int) (P O : List ByteArray) (F : List Tr) (vt : Value) (i : Nat) (nm : ByteArray) (v : Int) (left : List Int) (w : World) (e : Ending) (w' : World) : Prop :=
  e = .returned (.bool (metN (fun a => if nm = a then some v else vf a) (needsX X nm v))) ∧ (∃ O', Srch X w0 b o (K + 8) fuel (fun a => addH (h0 a) (findS (needsX X nm v) a)) (fun a => if nm = a then some v else vf a) O' (F.set i (nm, left, needsX X nm v)) vt w' ∧ OpenG (fun a => addH (h0 a) (findS (needsX X nm v) a)) P O' ∧ O'.length ≤ O.length + 6) ∧ FineH (K + 8) (fun a => addH (h0 a) (findS (needsX X nm v) a)) ∧ Runs w w'
set_option maxHeartbeats 8000000 in
set_option maxRecDepth 100000 in
theorem nextS_any (h0 : ByteArray → List (List S)) (P : List ByteArray) (nm : ByteArray) (v : Int) (left : List Int) (N : List Nd) (i0 tb nt ct : Nat) (w : World)
    (g : Srch X w0 b o K fuel h0 vf O F vt w) (hvt : vt = .slice (some ⟨tb, 0, none⟩) nt ct) (hF : F[i0]? = some (nm, v :: left, N)) (hX : TellsX w0 (.pointer o) X) (hfX : FineX X) (hsX : SetX X)
    (ho : OpenG h0 P O) (hP : ∀ a ∈ P, h0 a ≠ []) (hO : O.length + 6 ≤ 1000000) (hK : K + 8 ≤ 1000000) (hf : FineH K h0) (hnm : nm.size ≤ 1000000000) :
    Calls Tryz.prog 80 #[.pointer (some ⟨b, 0, none⟩), .pointer (some ⟨tb, i0 * 3, none⟩)] w (Nexts X w0 b o K fuel h0 vf P O F vt i0 nm v left w) := by
  have hmx : maxLen = 9223372036854775807 := by unfold maxLen; omega
  have hg := g
  obtain ⟨mr, ma, mv, vo, hb, hm, hBb, hbw⟩ := g
  obtain ⟨tb', cap, cur, e1, htB, htc, htm, htb, htz, Al, nl, cl, An, nn, cn, k0, k1, k2, hl1, hl2, hn2⟩ := hm.tries.at_ hF
  rw [hvt] at e1
  injection e1 with e1 _ _
  injection e1 with e1
  injection e1 with e1 _ _
  subst e1
  have hl2' := hl2
  obtain ⟨hlen, hread⟩ := hl2'
  rw [List.length_cons] at hlen
  obtain ⟨adl, curl, ml, rfl, _, hcl⟩ := hread (by omega)
  have kv : w.cell? adl = some (.int .i64 v) := by have := hcl 0 v rfl; rwa [add_zero'] at this
  have i1 : (0 : Int) < (nl : Int) := by omega
  have HMn := hide (manifestP_any nm w hg hX (by omega) hnm)
  unfold Manis at HMn
  have HGt := hide (fun (A : Option Addr) (n c : Nat) (wx : World) (hx : RlOn wx A n (getX X nm).1) => getI_any v nm (getX X nm).1 A n c wx hx (hfX.get nm))
  unfold GetsI at HGt
  unfold Nexts
  have hN' : needsX X nm v = ((getR (getX X nm).1 v).getD (0, [])).2 := rfl
  go_enter Tryz.func80, Tryz.ntmps80
  go_upto_region 3 with (first
    | (go_at_call 78
       refine HMn.out.mono ?_
       rintro e w2 ⟨A2, n2, c2, B2, rs2, rfl, hR2, hS2, hr2, hs2⟩)
    | (go_at_call 61
       refine (HGt.out _ _ _ _ ?_).mono ?_
       · obtain ⟨A', c', e, _, h⟩ := hR2.told
         injection e with e1 e2 e3
         subst e1
         exact h
       rintro e w3 ⟨A3, n3, c3, rfl, hN3, hb3⟩))
  rw [← hN'] at hN3
  have hN3' := hN3.below (alloc_bw w3 (.cells #[.int .i64 ((getR (getX X nm).1 v).getD (0, [])).1, .slice A3 n3 c3] 116))
  have hd := Blk.new w3 116 #[.int .i64 ((getR (getX X nm).1 v).getD (0, [])).1, .slice A3 n3 c3]
  have hb3W := hb3.trans ((alloc_bw w3 (.cells #[.int .i64 ((getR (getX X nm).1 v).getD (0, [])).1, .slice A3 n3 c3] 116)).mono hb3.size)
  have hSW := hS2.below hb3W
  have hRW := hr2.trans (.of_below hb3W)
  clear hS2 hr2 hb3W hb3 hN3 hR2 HMn HGt hs2 hg hm hb hbw k0 k1 k2 hn2 hl1 hl2 hcl kv i1 hlen htb
  generalize hW : w3.alloc (.cells #[.int .i64 ((getR (getX X nm).1 v).getD (0, [])).1, .slice A3 n3 c3] 116) = W at *
  generalize hgd : w3.heap.size = d at *
  clear hW hgd
  obtain ⟨mr, ma, mv, vo, hb, hm, hBb, hbw⟩ := hSW
  obtain ⟨tb', cap, cur, e1, htB, htc, htm, htb, htz, Al2, nl2, cl2, An2, nn2, cn2, k0, k1, k2, hl1, hl2, hn2⟩ := hm.tries.at_ hF
  rw [hvt] at e1
  injection e1 with e1 _ _
  injection e1 with e1
  injection e1 with e1 _ _
  subst e1
  have hl2' := hl2
  obtain ⟨hlen, hread⟩ := hl2'
  rw [List.length_cons] at hlen
  obtain ⟨adl2, curl2, ml2, rfl, _, _⟩ := hread (by omega)
  have htl := hl2.tail hl1
  have j1 : W.cell? ⟨d, 1, none⟩ = some (.slice A3 n3 c3) := hd.cell 1
  have hT : Blk W tb 140 cur := htb
  have f1 := hT.frozen (i0 * 3 + 1)
  have f2 := hT.frozen (i0 * 3 + 2)
  have i2 : (1 : Int) ≤ (nl2 : Int) := by omega
  have i3 : (nl2 : Int) ≤ (cl2 : Int) := by omega
  have n1 : ¬ d = tb := hd.ne_ hT (by decide)
  have n2 : ¬ tb = d := fun e => n1 e.symm
  have Hd := hide hd
  have Hhb := hide hb
  have Hhm := hide hm
  have HtB := hide htB
  have HRW := hide hRW
  clear hd hb hm hRW htB htc htm htz
  by_cases hc1 : cl2 = 1
  case' pos =>
    rw [if_pos hc1] at htl
    obtain ⟨ht5, hg5, hF5, hB5⟩ := (show TriesIn W w0.heap.size (.slice (some ⟨tb, 0, none⟩) nt ct) F by rw [← hvt]; exact Hhm.out.tries).set_ (cn := c3) hF (show nl2 - 1 ≤ 0 by omega) htl hN3'
    go_region
    go_wp2
    obtain ⟨Z, hZ⟩ : ∃ Z, Z = (W.setCell ⟨tb, i0 * 3 + 1, none⟩ (.slice (some adl2) (nl2 - 1) 0)).setCell ⟨tb, i0 * 3 + 2, none⟩ (.slice A3 n3 c3) := ⟨_, rfl⟩
  case' neg =>
    have htl : IntT W (some ⟨adl2.block, adl2.off + 1, none⟩) (nl2 - 1) left := by
      rw [if_neg hc1] at htl
      have ea : adl2.add 1 = ⟨adl2.block, adl2.off + 1, none⟩ := by simp [Addr.add]
      rw [← ea]
      exact htl
    obtain ⟨ht5, hg5, hF5, hB5⟩ := (show TriesIn W w0.heap.size (.slice (some ⟨tb, 0, none⟩) nt ct) F by rw [← hvt]; exact Hhm.out.tries).set_ (cn := c3) hF (show nl2 - 1 ≤ cl2 - 1 by omega) htl hN3'
    go_region
    go_wp2
    obtain ⟨Z, hZ⟩ : ∃ Z, Z = (W.setCell ⟨tb, i0 * 3 + 1, none⟩ (.slice (some ⟨adl2.block, adl2.off + 1, none⟩) (nl2 - 1) (cl2 - 1))).setCell ⟨tb, i0 * 3 + 2, none⟩ (.slice A3 n3 c3) := ⟨_, rfl⟩
  all_goals
    try rw [← hZ] at ht5 hg5
    try rw [← hZ]
    clear hZ
    have hmZ := Hhm.out.tryTo hg5 ⟨_, _, _, hT⟩ hF5 (show TriesIn Z w0.heap.size vt _ by rw [hvt]; exact ht5)
    have hbZ := Hhb.out.grown hg5 (hF5 _ (by decide) _ _ _ Hhb.out)
    have hwZ : Below w0.heap.size w0 Z := Below.grown hbw hg5 hbw.size (fun r e => by injection e with e; rw [← e]; exact hB5)
    have hRZ : Runs w Z := HRW.out.step hg5 fun T hT => hF5 T (far_of own_try hT)
    have hFs : (F.set i0 (nm, left, needsX X nm v))[i0]? = some (nm, left, needsX X nm v) := List.getElem?_set_self (List.getElem?_eq_some_iff.1 hF).1
    clear hT k0 k1 k2 hn2 hl1 hl2 htl hlen hN3' ht5 hg5 hF5 hB5 Hhm Hhb HRW f1 f2 n1 n2 j1 Hd HtB i2 i3 hc1 hbw
    obtain ⟨tb', cap, cur, e1, htB, htc, htm, htb, htz, Al3, nl3, cl3, An3, nn3, cn3, k0, k1, k2, hl1, hl2, hn2⟩ := hmZ.tries.at_ hFs
    rw [hvt] at e1
    injection e1 with e1 _ _
    injection e1 with e1
    injection e1 with e1 _ _
    subst e1
    simp only [] at k0 k1 k2
    have p5 : Z.cell? ⟨b, 5, none⟩ = some (.map (some mv)) := hbZ.cell 5
    obtain ⟨w6, hup, hv6, hg6⟩ := VersM.put_ (w := Z.drew.drew) hmZ.vers (x := nm) (by omega) (by omega) v
    have F6 : ∀ T, FarT Z.drew.drew T (some mv) := fun T => farT_ownF (w := Z.drew.drew) T hmZ.vers
    have hm6 := (hmZ.below (w1 := Z.drew.drew) (Below.refl _ _).drew.drew).versTo hg6 (Nat.le_succ _) hv6
    have hb6 := Blk.grown (w := Z.drew.drew) hbZ hg6 (F6 _ _ _ _ hbZ)
    have hw6 : Below w0.heap.size w0 w6 := Below.grown hwZ.drew.drew hg6 hwZ.size (fun r e => by injection e with e; rw [← e]; exact hmZ.bv)
    have hR6z : Runs Z w6 := (Runs.of_below (w := Z) (w1 := Z.drew.drew) (Below.refl _ _).drew.drew).step hg6 fun T _ => F6 T
    have hS6 : Srch X w0 b o (K + 2) fuel h0 (fun a => if nm = a then some v else vf a) O (F.set i0 (nm, left, needsX X nm v)) vt w6 := ⟨mr, ma, mv, vo, hb6, hm6, hBb, hw6⟩
    have hN6 := hR6z.inN hn2
    have q2 : w6.cell? ⟨tb, i0 * 3 + 2, none⟩ = some (.slice An3 nn3 cn3) := (World.cell?_of_block (hg6.block tb (Array.getElem?_eq_some_iff.1 htb).1 (F6 _ _ _ _ htb))).trans k2
    have HAs := hide (askS_any h0 P (needsX X nm v) An3 nn3 cn3 w6 hS6 (.inl hN6) (needs_ok hsX nm v) (fun q hq => needs_size hfX hq) ho hP hO (by omega) (hf.mono (by omega)))
    unfold Asks at HAs
    have hR6 := hRZ.trans hR6z
    clear hmZ hbZ hwZ hRZ hFs htB htc htm htb htz hn2 hl1 hl2 hv6 hg6 F6 hm6 hb6 hw6 hR6z hS6 hN6
    go_region
    go_wp2_with (first
      | (go_at_call 51
         refine HAs.out.mono ?_
         rintro e w7 ⟨rfl, hO7, hF7, hR7⟩))
    go_ret
    exact ⟨rfl, hO7, hF7, hR6.trans hR7⟩
end
end Go.Proofs.YtmoeilkaadnnoaaGreat.Plain
