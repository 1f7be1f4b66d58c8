/-
  Some texts of this claim, one behind the other: PlainAgain, PlainKnown. What each proves, and its condition, stands at its head.
-/
import Derived.Test.YtmoeilkaadnnoaaGreatY45
import Derived.Test.YtmoeilkaadnnoaaGreatY43
import Derived.WalkSmall
/-
  The contract of the search's again: the next version of the name that was begun last. Condition: what is known is looked at.
-/
namespace Go.Proofs.YtmoeilkaadnnoaaGreat.Plain
open Go Go.RowKit Go.Lib Go.Sort Go.Proofs.YtmoeilkaadnnoaaGreat.Span Go.Proofs.YtmoeilkaadnnoaaGreat.Need Go.Proofs.YtmoeilkaadnnoaaGreat.Mani Go.Proofs.YtmoeilkaadnnoaaGreat.Wire Go.Proofs.YtmoeilkaadnnoaaGreat.Depot Go.Proofs.YtmoeilkaadnnoaaGreat.Index Go.Proofs.YtmoeilkaadnnoaaGreat.Reach Go.Proofs.YtmoeilkaadnnoaaGreat.Pick Go.Proofs.YtmoeilkaadnnoaaGreat.Fit Go.Proofs.YtmoeilkaadnnoaaGreat.MapV
set_option linter.unusedVariables false
def memF (X : List Kn) (R : List Fr) : List Tr := R.reverse.map fun t => (t.1, t.2.2, needsF X t)
theorem memF_cons (X : List Kn) (t : Fr) (R : List Fr) : memF X (t :: R) = memF X R ++ [(t.1, t.2.2, needsF X t)] := by simp [memF]
theorem memF_len (X : List Kn) (R : List Fr) : (memF X R).length = R.length := by simp [memF]
theorem slice_base {tb tb' nt nt' ct ct' : Nat} (h : Value.slice (some ⟨tb, 0, none⟩) nt ct = .slice (some ⟨tb', 0, none⟩) nt' ct') : tb = tb' := by
  injection h with h _ _
  injection h with h
  injection h with h _ _
def EndsP (w0 : World) (t : Plain.Told) (e : Ending) (w' : World) : Prop :=
  ∃ A n c, e = .panicked [{ v := .iface 65 (.agg #[.slice A n c, .int .i64 (kindT t), .string (nameT t)]), recovered := false }] ∧ NewP w' 0 A n c (picksT t) ∧ Below w0.heap.size w0 w'
structure InvS (X : List Kn) (root : List Nd) (w0 : World) (b : Nat) (o : Option Addr) (K : Nat) (R : List Fr) (fuel : Int) (w : World) : Prop where
  ok : OkR X root R
  st : ∃ O vt, Srch X w0 b o K fuel (histR X root R) (versR R) O (memF X R) vt w ∧ OpenG (histR X root R) (namesR R) O ∧ O.length + R.length ≤ K
  fine : FineH K (histR X root R)
section
variable {X : List Kn} {root : List Nd} {w0 : World} {b : Nat} {o Ar : Option Addr} {K nr : Nat} {fuel : Int}
theorem TriesIn.cut {w : World} {B : Nat} {A : Option Addr} {nt ct : Nat} {F : List Tr} {q : Tr} (g : TriesIn w B (.slice A nt ct) (F ++ [q])) : TriesIn w B (.slice A F.length ct) F := by
  obtain ⟨rs, ⟨g1, g2⟩, g3, g4⟩ := g
  rw [List.length_append, List.length_singleton] at g2 g3
  rcases g2 with ⟨_, e⟩ | ⟨b', cap, cur, e1, e2, e3, e4, e5, e6, e7⟩
  · omega
  · injection e1 with f1 f2 f3
    subst f3
    refine ⟨rs.take F.length, ⟨by rw [trcs_length, List.length_take]; omega, .inr ⟨b', ct, cur, by rw [f1], e2, e3, by omega, e5, e6, ?_⟩⟩, by rw [List.length_take]; omega, fun i r q' hr hq => ?_⟩
    · have h1 : rs = rs.take F.length ++ rs.drop F.length := (List.take_append_drop _ _).symm
      have h2 : trcs rs = trcs (rs.take F.length) ++ trcs (rs.drop F.length) := by rw [← trcs_append, ← h1]
      have h3 : (trcs (rs.take F.length)).length = F.length * 3 := by rw [trcs_length, List.length_take]; omega
      rw [← Nat.min_eq_left (show F.length * 3 ≤ (F.length + 1) * 3 by omega), ← List.take_take, e7, h2, List.take_append_of_le_length (by omega), List.take_of_length_le (by omega)]
    · have hi : i < F.length := (List.getElem?_eq_some_iff.1 hq).1
      rw [List.getElem?_take, if_pos hi] at hr
      exact g4 i r q' hr (by rw [List.getElem?_append_left hi]; exact hq)
theorem srch_tries {h : ByteArray → List (List S)} {vf : ByteArray → Option Int} {O : List ByteArray} {F F' : List Tr} {vt vt' : Value} {w : World} (g : Srch X w0 b o K fuel h vf O F vt w) (ht : TriesIn w w0.heap.size vt' F') : Srch X w0 b o K fuel h vf O F' vt' (w.setCell ⟨b, 6, none⟩ vt') ∧ w.frozen? ⟨b, 6, none⟩ = false ∧ w.cell? ⟨b, 6, none⟩ = some vt := by
  obtain ⟨mr, ma, mv, vo, hb, hm, hBb, hbw⟩ := g
  have hst : w.grownBy (w.setCell ⟨b, 6, none⟩ vt') (some b) := only_setCell (p := ⟨b, 6, none⟩) (only_self w b) (.inl rfl) _
  have hm1 := hm.blk hb (by decide) hst
  have ht1 := ht.far (farT_blk hb (by decide)) (farT_blk hb (by decide)) (farT_blk hb (by decide)) (farT_blk hb (by decide)) hst
  exact ⟨⟨mr, ma, mv, vo, hb.set_ 6 vt', ⟨hm1.ra, hm1.rv, hm1.av, hm1.br, hm1.ba, hm1.bv, hm1.read, hm1.ask, hm1.op, hm1.vers, ht1⟩, hBb, hbw.setCell (p := ⟨b, 6, none⟩) hBb _⟩, hb.frozen 6, hb.cell 6⟩
theorem srch_fuel {h : ByteArray → List (List S)} {vf : ByteArray → Option Int} {O : List ByteArray} {F : List Tr} {vt : Value} {w : World} (g : Srch X w0 b o K fuel h vf O F vt w) (z : Int) : Srch X w0 b o K z h vf O F vt (w.setCell ⟨b, 1, none⟩ (.int .i64 z)) ∧ w.frozen? ⟨b, 1, none⟩ = false ∧ w.cell? ⟨b, 1, none⟩ = some (.int .i64 fuel) := by
  obtain ⟨mr, ma, mv, vo, hb, hm, hBb, hbw⟩ := g
  have hst : w.grownBy (w.setCell ⟨b, 1, none⟩ (.int .i64 z)) (some b) := only_setCell (p := ⟨b, 1, none⟩) (only_self w b) (.inl rfl) _
  exact ⟨⟨mr, ma, mv, vo, hb.set_ 1 _, hm.blk hb (by decide) hst, hBb, hbw.setCell (p := ⟨b, 1, none⟩) hBb _⟩, hb.frozen 1, hb.cell 1⟩
theorem Srch.to {h h' : ByteArray → List (List S)} {vf vf' : ByteArray → Option Int} {O : List ByteArray} {F F' : List Tr} {vt : Value} {w : World} (g : Srch X w0 b o K fuel h vf O F vt w) (e1 : ∀ a, h a = h' a) (e2 : ∀ a, vf a = vf' a) (e3 : F = F') : Srch X w0 b o K fuel h' vf' O F' vt w := by
  rw [← (funext e1 : h = h'), ← (funext e2 : vf = vf'), ← e3]
  exact g
theorem InvS.mono {R : List Fr} {w : World} {K' : Nat} (g : InvS X root w0 b o K R fuel w) (hK : K ≤ K') : InvS X root w0 b o K' R fuel w := by
  obtain ⟨h1, ⟨O, vt, h2, h3, h4⟩, h5⟩ := g
  exact ⟨h1, ⟨O, vt, h2.mono hK, h3, by omega⟩, h5.mono hK⟩
def Agains (X : List Kn) (root : List Nd) (w0 : World) (b : Nat) (o : Option Addr) (K : Nat) (R : List Fr) (fuel : Int) (RT : Plain.Told) (e : Ending) (w' : World) : Prop :=
  EndsP w0 RT e w' ∨
  (e = .returned (.bool false) ∧ ∃ (R' : List Fr) (fuel' : Int), InvS X root w0 b o (K + 20 * (fuel.toNat - fuel'.toNat)) R' fuel' w' ∧ RT = resA X root R' fuel'.toNat ∧ fuel'.toNat + R'.length < fuel.toNat + R.length ∧ fuel'.toNat ≤ fuel.toNat ∧ -9223372036854775808 ≤ fuel' ∧ fuel' ≤ fuel) ∨
  (e = .returned (.bool true) ∧ ∃ (R' : List Fr) (fuel' : Int), InvS X root w0 b o (K + 8) R' fuel' w' ∧ Settled R' ∧ deadX X root (picksR R') = false ∧ RT = resB X root R' fuel'.toNat ∧ fuel'.toNat + 1 = fuel.toNat ∧ -9223372036854775808 ≤ fuel' ∧ fuel' ≤ fuel)
set_option maxHeartbeats 8000000 in
set_option maxRecDepth 100000 in
theorem againS_any (root0 : AskedP X root (.pointer o) Ar nr w0) (R : List Fr) (w : World) (g : InvS X root w0 b o K R fuel w) (hK : K ≤ 900000) (hz1 : -9223372036854775808 ≤ fuel) (hz2 : fuel ≤ 2000) :
    Calls Tryz.prog 53 #[.pointer (some ⟨b, 0, none⟩)] w (Agains X root w0 b o K R fuel (resA X root R fuel.toNat)) := by
  have hmx : maxLen = 9223372036854775807 := by unfold maxLen; omega
  obtain ⟨⟨_, hX⟩, hf, hS, hv, hXl, hr, hn, hok, hr9⟩ := root0
  have HX0 := hide hX
  obtain ⟨hR, ⟨O, vt, hst, hop, hlen⟩, hfine⟩ := g
  obtain ⟨RT, hRT⟩ : ∃ RT, RT = resA X root R fuel.toNat := ⟨_, rfl⟩
  rw [← hRT]
  unfold Agains
  cases R with
  | nil =>
    have hvt : ∃ A c, vt = .slice A 0 c := by
      obtain ⟨mr, ma, mv, vo, hb, hm, _⟩ := hst
      obtain ⟨rs, g1, _⟩ := hm.tries
      obtain ⟨A, c, e, _⟩ := own_form g1
      exact ⟨A, c, e⟩
    obtain ⟨A, c, rfl⟩ := hvt
    have hbw : Below w0.heap.size w0 w := by obtain ⟨_, _, _, _, _, _, _, h⟩ := hst; exact h
    have k6 : w.cell? ⟨b, 6, none⟩ = some (.slice A 0 c) := by obtain ⟨_, _, _, _, h, _⟩ := hst; exact h.cell 6
    have HRT := hide hRT
    clear hst hop hfine hR hRT hX
    go_enter Tryz.func53, Tryz.ntmps53
    go_wp2
    refine ⟨rfl, ?_⟩
    rw [show RT = .nothing from HRT.out]
    exact .inl ⟨none, 0, 0, rfl, NewP.nil_ _ _, hbw⟩
  | cons t R =>
    obtain ⟨nm, c, L⟩ := t
    have hR0 := hR
    obtain ⟨hR1, hRs, hRd, hRn, kk, hRk, hRc, hRl⟩ := hR
    simp only [] at hRn hRk hRc hRl
    have hnm : nm.size ≤ 100 := next_short hf hr9 hRn
    have hR2 : OkR X root ((nm, none, L) :: R) := ⟨hR1, hRs, hRd, hRn, kk, hRk, fun v h => (by cases h), hRl⟩
    have hP : ∀ a ∈ namesR ((nm, c, L) :: R), histR X root R a ≠ [] := fun a ha => okR_hist hS hv hok hR2 a ha
    have hND := okR_nodup hR0
    have hnmR : nm ∉ namesR R := (List.nodup_cons.1 hND).1
    have hF : (memF X ((nm, c, L) :: R))[R.length]? = some (nm, L, needsF X (nm, c, L)) := by
      rw [memF_cons, List.getElem?_append_right (by rw [memF_len]; exact Nat.le_refl _), memF_len, Nat.sub_self]
      rfl
    have hFl : (memF X ((nm, c, L) :: R)).length = R.length + 1 := by rw [memF_len]; rfl
    have hNs : ∀ q ∈ needsF X (nm, c, L), q.1.size ≤ 100 := fun q hq => by
      cases c with
      | none => cases hq
      | some v => exact needs_size hf hq
    have hXl2 := okR_len hS hv hok hR0
    rw [List.length_cons] at hlen hXl2
    have hst0 := hst
    obtain ⟨mr, ma, mv, vo, hb, hm, hBb, hbw⟩ := hst0
    obtain ⟨tb, ct, cur, e1, htB, htc, htm, htb, htz, Al, nl, cl, An, nn, cn, k0, k1, k2, hl1, hl2, hn2⟩ := hm.tries.at_ hF
    rw [hFl] at e1 htc
    subst e1
    have k6 : w.cell? ⟨b, 6, none⟩ = some (.slice (some ⟨tb, 0, none⟩) (R.length + 1) ct) := hb.cell 6
    clear k0 k1 k2 hl1 hl2 hn2 htb hm hb htz cur
    have HD := hide (dropP_any (histR X root R) (namesR ((nm, c, L) :: R)) nm R.length L (needsF X (nm, c, L)) tb (R.length + 1) ct w hst rfl hF (needsF_ok hS _) hNs hop hP (by omega) (by omega) (fun a => (hfine a).1) (by omega))
    unfold Drops at HD
    have hfine0 : FineH K (histR X root R) := fun a => by
      have h1 := hfine a
      rw [histR] at h1
      cases e : findS (needsF X (nm, c, L)) a with
      | none => rw [e] at h1; exact h1
      | some s =>
        rw [e] at h1
        exact ⟨by have := h1.1; simp [addH] at this; omega, fun x hx => h1.2 x (List.mem_append_left _ hx)⟩
    obtain ⟨nt, hnt⟩ : ∃ nt, nt = R.length + 1 := ⟨_, rfl⟩
    have i1 : ((nt : Int) == 0) = false := beq_eq_false_iff_ne.2 (by omega)
    have i2 : IntKind.i64.wrap ((nt : Int) - 1) = (R.length : Int) := by rw [IntKind.wrap_i64]; omega
    have i3 : (0 : Int) ≤ (R.length : Int) := by omega
    have i4 : (R.length : Int) < (nt : Int) := by omega
    rw [← hnt] at k6
    have HRT := hide hRT
    clear hst hop hfine hRT hX
    cases L with
    | nil =>
      go_enter Tryz.func53, Tryz.ntmps53
      go_upto_region 6 with (first
        | (go_at_call 79
           refine HD.out.mono ?_
           rintro e w2 ⟨rfl, ⟨O2, hS2, hO2, hl2⟩, hr2⟩))
      obtain ⟨mr, ma, mv, vo, hb, hm, _, hbw2⟩ := id hS2
      obtain ⟨tb', ct', cur, e1, htB, htc, htm, htb, htz, Al, nl, cl, An, nn, cn, k0, k1, k2, hl1, hl3, hn2⟩ := hm.tries.at_ hF
      have e2 := slice_base e1
      clear e1
      subst e2
      have hnl : nl = 0 := by have := hl3.1; simp at this; omega
      subst hnl
      simp only [] at k0 k1
      have i5 : (R.length : Int) ≤ (ct : Int) := by omega
      have HW := hide (waitP_any nm w2 hS2 hO2.1 (by omega))
      have htry : TriesIn w2 w0.heap.size (.slice (some ⟨tb, 0, none⟩) (R.length + 1) ct) (memF X R ++ [(nm, [], needsF X (nm, c, []))]) := by have := hm.tries; rwa [memF_cons] at this
      clear hb hm htb hl1 hl3 hn2 k2 htz HD
      go_upto_region 8 with (first
        | (go_at_call 73
           refine HW.out.mono ?_
           rintro e w3 ⟨rfl, hS3, hr3⟩))
      obtain ⟨mr3, ma3, mv3, vo3, hb3, hm3, _⟩ := id hS3
      have ht3 : TriesIn w3 w0.heap.size (.slice (some ⟨tb, 0, none⟩) (R.length + 1) ct) (memF X R ++ [(nm, [], needsF X (nm, c, []))]) := by
        have := hm3.tries
        rwa [memF_cons] at this
      have hct := ht3.cut
      rw [memF_len] at hct
      obtain ⟨hS4, f6, k63⟩ := srch_tries hS3 hct
      clear hb3
      clear hm3 ht3
      go_wp2
      go_ret
      refine .inr (.inl ⟨rfl, R, fuel, ⟨hR1, ⟨_, _, (hS4.to (fun a => rfl) (fun a => ?_) rfl).mono (by omega), hO2.back (hP nm (by simp [namesR])) hnmR, ?_⟩, hfine0.mono (by omega)⟩, by rw [HRT.out]; rfl, by simp, Nat.le_refl _, hz1, Int.le_refl _⟩)
      · by_cases e : nm = a
        · rw [if_pos e, ← e]
          cases e2 : versR R nm with
          | none => rfl
          | some u =>
            obtain ⟨t', ht', e3, _⟩ := vers_frame e2
            exact absurd (List.mem_map.2 ⟨t', ht', e3⟩) hnmR
        · rw [if_neg e, versR, if_neg e]
      · rw [insN_len]; omega
    | cons v L =>
      go_enter Tryz.func53, Tryz.ntmps53
      go_upto_region 6 with (first
        | (go_at_call 79
           refine HD.out.mono ?_
           rintro e w2 ⟨rfl, ⟨O2, hS2, hO2, hl2⟩, hr2⟩))
      obtain ⟨mr, ma, mv, vo, hb, hm, _, hbw2⟩ := id hS2
      obtain ⟨tb', ct', cur, e1, htB, htc, htm, htb, htz, Al, nl, cl, An, nn, cn, k0, k1, k2, hl1, hl3, hn2⟩ := hm.tries.at_ hF
      have e2 := slice_base e1
      clear e1
      subst e2
      have hnl : nl = L.length + 1 := by have := hl3.1; rw [List.length_cons] at this; omega
      simp only [] at k0 k1
      have i5 : ((nl : Int) == 0) = false := beq_eq_false_iff_ne.2 (by omega)
      have p1 : w2.cell? ⟨b, 1, none⟩ = some (.int .i64 fuel) := hb.cell 1
      clear hb hm htb hl1 hl3 hn2 k2 htz HD hnl
      by_cases hfu : fuel ≤ 0
      · have ef : fuel.toNat = 0 := by omega
        rw [ef] at HRT
        clear k0 hS2 hO2 hl2 hr2
        go_wp2
        refine ⟨rfl, ?_⟩
        rw [show RT = .spent from HRT.out]
        exact .inl ⟨none, 0, 0, rfl, NewP.nil_ _ _, hbw2⟩
      · have i7 : IntKind.i64.wrap (fuel - 1) = fuel - 1 := by rw [IntKind.wrap_i64]; omega
        obtain ⟨hS3, f13, k13⟩ := srch_fuel hS2 (fuel - 1)
        have HN := hide (nextS_any (histR X root R) (namesR ((nm, c, v :: L) :: R)) nm v L (needsF X (nm, c, v :: L)) R.length tb (R.length + 1) ct _ hS3 rfl hF HX0.out hf hS hO2 hP (by omega) (by omega) hfine0 (by omega))
        unfold Nexts at HN
        have ef : (fuel - 1).toNat + 1 = fuel.toNat := by omega
        have hef : 0 < fuel.toNat := by omega
        clear hS2 hO2 hS3
        go_wp2_with (first
          | (go_at_call 80
             refine HN.out.mono ?_
             rintro e w4 ⟨rfl, ⟨O4, hS4, hO4, hl4⟩, hF4, hr4⟩))
        go_ret
        have hOk2 : OkR X root ((nm, some v, L) :: R) := ⟨hR1, hRs, hRd, hRn, kk, hRk, fun u h => by
          injection h with h
          rw [← h]
          exact hRl v (by simp), fun u hu => hRl u (by simp [hu])⟩
        have hdm := dead_met hS hv hok hOk2 rfl
        have hve : ∀ a, (if nm = a then some v else if nm = a then none else versR ((nm, c, v :: L) :: R) a) = versR ((nm, some v, L) :: R) a := fun a => by
          rw [versR, versR]
          by_cases e : nm = a
          · rw [if_pos e, if_pos e]
          · rw [if_neg e, if_neg e, if_neg e, if_neg e]
        have hmet : metN (fun a => if nm = a then some v else if nm = a then none else versR ((nm, c, v :: L) :: R) a) (needsX X nm v) = !deadX X root (picksR ((nm, some v, L) :: R)) := by
          rw [funext hve, hdm, Bool.not_not]
          rfl
        have hmem : (memF X ((nm, c, v :: L) :: R)).set R.length (nm, L, needsX X nm v) = memF X ((nm, some v, L) :: R) := by
          rw [memF_cons, memF_cons, List.set_append_right _ _ (by rw [memF_len]; exact Nat.le_refl _), memF_len, Nat.sub_self]
          rfl
        have hInv : InvS X root w0 b o (K + 8) ((nm, some v, L) :: R) (fuel - 1) w4 := ⟨hOk2, ⟨O4, _, hS4.to (fun a => rfl) hve hmem, hO4, by rw [List.length_cons]; omega⟩, hF4⟩
        have hRT4 : RT = resB X root ((nm, some v, L) :: R) (fuel - 1).toNat := by
          rw [HRT.out, resA_next hef]
          congr 1
          omega
        refine .inr ?_
        rw [hmet]
        cases hd : deadX X root (picksR ((nm, some v, L) :: R)) with
        | true =>
          refine .inl ⟨rfl, _, fuel - 1, hInv.mono (by omega), by rw [hRT4, resB_dead hd], by simp only [List.length_cons]; omega, by omega, by omega, by omega⟩
        | false =>
          refine .inr ⟨rfl, _, fuel - 1, hInv, fun t ht => ?_, hd, hRT4, ef, by omega, by omega⟩
          rcases List.mem_cons.1 ht with rfl | ht
          · rfl
          · exact hRs t ht
end
end Go.Proofs.YtmoeilkaadnnoaaGreat.Plain
/-
  The contract of the search's known: it ends the search, where a name of root is lacked, or broken. Condition: what is known is looked at.
-/
namespace Go.Proofs.YtmoeilkaadnnoaaGreat.Plain
open Go Go.RowKit Go.Lib Go.Sort Go.Proofs.YtmoeilkaadnnoaaGreat.Span Go.Proofs.YtmoeilkaadnnoaaGreat.Need Go.Proofs.YtmoeilkaadnnoaaGreat.Mani Go.Proofs.YtmoeilkaadnnoaaGreat.Wire Go.Proofs.YtmoeilkaadnnoaaGreat.Depot Go.Proofs.YtmoeilkaadnnoaaGreat.Index Go.Proofs.YtmoeilkaadnnoaaGreat.Reach Go.Proofs.YtmoeilkaadnnoaaGreat.Pick Go.Proofs.YtmoeilkaadnnoaaGreat.Fit Go.Proofs.YtmoeilkaadnnoaaGreat.MapV
set_option linter.unusedVariables false
section
variable {X : List Kn} {root : List Nd} {w0 : World} {b : Nat} {o Ar : Option Addr} {nr cr : Nat} {fuel : Int}
theorem need_nextK {L : List Nd} {f : Nd → Bool} {i : Nat} {q : Nd} (h : L[i]? = some q) : (L.drop i).find? f = if f q = true then some q else (L.drop (i + 1)).find? f := by
  obtain ⟨hi, e⟩ := List.getElem?_eq_some_iff.1 h
  rw [List.drop_eq_getElem_cons hi, e, List.find?_cons]
  cases g : f q <;> simp
def Knowns (X : List Kn) (root : List Nd) (w0 w : World) (e : Ending) (w' : World) : Prop :=
  (∃ q, root.find? (fun q : Nd => (atX X q.1).isNone) = some q ∧ EndsP w0 (.lacks q.1) e w') ∨
  (root.find? (fun q : Nd => (atX X q.1).isNone) = none ∧ ∃ q, root.find? (fun q : Nd => !(getX X q.1).2) = some q ∧ EndsP w0 (.broken q.1) e w') ∨
  (root.find? (fun q : Nd => (atX X q.1).isNone) = none ∧ root.find? (fun q : Nd => !(getX X q.1).2) = none ∧ e = .returned (.tuple #[]) ∧ Below w.heap.size w w')
set_option maxHeartbeats 8000000 in
set_option maxRecDepth 100000 in
theorem knownS_any (root0 : AskedP X root (.pointer o) Ar nr w0) (w : World) {cs : Array Value} (hb : Blk w b 73 cs) (hcs : cs[0]? = some (.pointer o)) (hbw : Below w0.heap.size w0 w) :
    Calls Tryz.prog 50 #[.pointer (some ⟨b, 0, none⟩), .slice Ar nr cr] w (Knowns X root w0 w) := by
  obtain ⟨⟨_, hX⟩, hf, hS, hv, hXl, hr, hn, hok, hr9⟩ := root0
  have Hlen := hide hr.len
  have HH := hide (fun (a : ByteArray) (wx : World) (hx : Below w0.heap.size w0 wx) (hs : a.size ≤ 1000000000) => (hX a wx hx hs).2)
  have HG := hide (fun (a : ByteArray) (wx : World) (hx : Below w0.heap.size w0 wx) (hs : a.size ≤ 1000000000) => (hX a wx hx hs).1)
  unfold Gots at HG
  have Hd1 := hide (fun (i : Nat) (q : Nd) (h : root[i]? = some q) => need_nextK (f := fun q : Nd => (atX X q.1).isNone) h)
  have Hd2 := hide (fun (i : Nat) (q : Nd) (h : root[i]? = some q) => need_nextK (f := fun q : Nd => !(getX X q.1).2) h)
  have HN := hide (fun (wx : World) (hx : Below w0.heap.size w0 wx) (k : Nat) (hk : k < nr) => need_at (w := w0) (w' := wx) (.inr hr) (Runs.of_below hx) hx hk)
  obtain ⟨R1, hR1⟩ : ∃ R1, R1 = root.find? fun q : Nd => (atX X q.1).isNone := ⟨_, rfl⟩
  obtain ⟨R2, hR2⟩ : ∃ R2, R2 = root.find? fun q : Nd => !(getX X q.1).2 := ⟨_, rfl⟩
  have HR1 := hide hR1
  have HR2 := hide hR2
  have H1 : Hid (R1 = (root.drop 0).find? fun q : Nd => (atX X q.1).isNone) := hide hR1
  have H2 : Hid (R2 = (root.drop 0).find? fun q : Nd => !(getX X q.1).2) := hide hR2
  have Hb := hide (fun (wx : World) (h1 : Below w.heap.size w wx) => ((hb.below h1 hb.lt).cell 0).trans hcs)
  have hblt := hb.lt
  clear hR1 hR2 hX hf hS hv hXl hr hok hb hcs
  go_enter Tryz.func50, Tryz.ntmps50
  go_wp2
  go_loopw [12] (fun v wr => ∃ (i : Nat), i ≤ nr ∧ v = .int .i64 (i : Int) ∧ Hid (R1 = (root.drop i).find? fun q : Nd => (atX X q.1).isNone) ∧ Below w.heap.size w wr) (fun v _ => nr - (RowKit.intOf v).toNat)
  case atStart => exact ⟨0, by omega, rfl, H1, Below.refl _ _⟩
  case round =>
    obtain ⟨i, hi, rfl, hff, hbr⟩ := hrel
    have hbs := hbr.size
    have hb0 := hbw.trans (hbr.mono hbw.size)
    clear H1
    by_cases hlt : i < nr
    · obtain ⟨ad, q, A', n', c', rfl, hx, c1, c2, _⟩ := HN.out wr hb0 i hlt
      have hq := hr9 q (List.mem_of_getElem? hx)
      have hd := hff.out.trans (Hd1.out i q hx)
      obtain ⟨x, s⟩ := q
      simp only [] at c1 c2 hq hd
      obtain ⟨W, hW⟩ : ∃ W, W = wr.alloc (.cells #[.string x, .slice A' n' c'] 54) := ⟨_, rfl⟩
      have hWb : Below wr.heap.size wr W := by rw [hW]; exact alloc_bw _ _
      have hdd : Blk W wr.heap.size 54 #[.string x, .slice A' n' c'] := by rw [hW]; exact Blk.new _ _ _
      have hbW : Below w.heap.size w W := hbr.trans (hWb.mono hbs)
      have hb0W := hbw.trans (hbW.mono hbw.size)
      have kb : W.cell? ⟨b, 0, none⟩ = some (.pointer o) := Hb.out W hbW
      have kd : W.cell? ⟨wr.heap.size, 0, none⟩ = some (.string x) := hdd.cell 0
      have kcd : W.drew.cell? ⟨b, 0, none⟩ = some (.pointer o) ∧ W.drew.cell? ⟨wr.heap.size, 0, none⟩ = some (.string x) := ⟨kb, kd⟩
      have HHx := hide (HH.out x W.drew hb0W.drew (by omega))
      have hbWd : Below w.heap.size w W.drew := hbW.drew
      clear hx hff
      cases g : atX X x with
      | some k =>
        rw [g] at HHx
        have e : Hid (R1 = (root.drop (i + 1)).find? fun q : Nd => (atX X q.1).isNone) := hide (by rw [hd, g]; rfl)
        clear hd Hd1 g
        go_upto_region 3 with fail
        rw [← hW]
        clear hW
        go_region_held3 (fun w' => w'.cell? ⟨b, 0, none⟩ = some (.pointer o) ∧ w'.cell? ⟨wr.heap.size, 0, none⟩ = some (.string x)) (first | exact kcd | go_keep)
          (first
            | (go_at_call 47
               refine HHx.out.mono ?_
               rintro e w1 ⟨rfl, rfl⟩))
        go_wp2
        go_roundw
        case rel => exact ⟨i + 1, by omega, by go_num, e, hbWd⟩
        case measure => simp [RowKit.intOf]; omega
      | none =>
        rw [g] at HHx
        have e : Hid (R1 = some (x, s)) := hide (by rw [hd, g]; rfl)
        clear hd Hd1 g
        go_upto_region 3 with fail
        rw [← hW]
        clear hW
        go_region_held3 (fun w' => w'.cell? ⟨b, 0, none⟩ = some (.pointer o) ∧ w'.cell? ⟨wr.heap.size, 0, none⟩ = some (.string x)) (first | exact kcd | go_keep)
          (first
            | (go_at_call 47
               refine HHx.out.mono ?_
               rintro e w1 ⟨rfl, rfl⟩))
        go_wp2
        refine ⟨rfl, ?_⟩
        exact .inl ⟨(x, s), HR1.out.symm.trans e.out, none, 0, 0, rfl, NewP.nil_ _ _, hb0W.drew⟩
    · have hi2 : i = nr := by omega
      have e1 : Hid (R1 = none) := hide <| by rw [hff.out, hi2, List.drop_of_length_le (by have := Hlen.out; omega)]; rfl
      clear hff Hd1 HH hi2
      go_wp2
      go_loopw [31] (fun v wz => ∃ (i : Nat), i ≤ nr ∧ v = .int .i64 (i : Int) ∧ Hid (R2 = (root.drop i).find? fun q : Nd => !(getX X q.1).2) ∧ Below w.heap.size w wz) (fun v _ => nr - (RowKit.intOf v).toNat)
      case atStart => exact ⟨0, by omega, rfl, H2, hbr⟩
      case round =>
        obtain ⟨i, hi, rfl, hff, hbr⟩ := hrel
        have hbs := hbr.size
        have hb0 := hbw.trans (hbr.mono hbw.size)
        clear H2
        by_cases hlt2 : i < nr
        · obtain ⟨ad, q, A', n', c', rfl, hx, c1, c2, _⟩ := HN.out wr hb0 i hlt2
          have hq := hr9 q (List.mem_of_getElem? hx)
          have hd := hff.out.trans (Hd2.out i q hx)
          obtain ⟨x, s⟩ := q
          simp only [] at c1 c2 hq hd
          obtain ⟨W, hW⟩ : ∃ W, W = wr.alloc (.cells #[.string x, .slice A' n' c'] 54) := ⟨_, rfl⟩
          have hWb : Below wr.heap.size wr W := by rw [hW]; exact alloc_bw _ _
          have hdd : Blk W wr.heap.size 54 #[.string x, .slice A' n' c'] := by rw [hW]; exact Blk.new _ _ _
          have hbW : Below w.heap.size w W := hbr.trans (hWb.mono hbs)
          have hb0W := hbw.trans (hbW.mono hbw.size)
          have HE := hide (fun (wx : World) (h1 : Below W.heap.size W wx) => (⟨Hb.out wx (hbW.trans (h1.mono hbW.size)), (hdd.below h1 hdd.lt).cell 0⟩ : wx.cell? ⟨b, 0, none⟩ = some (.pointer o) ∧ wx.cell? ⟨wr.heap.size, 0, none⟩ = some (.string x)))
          have kc := HE.out W (Below.refl _ _)
          have kcd := HE.out W.drew (Below.refl _ _).drew
          have HGx := hide (fun (wx : World) (h1 : Below W.heap.size W wx) => HG.out x wx (hb0W.trans (h1.mono hb0W.size)) (by omega))
          have hWs : wr.heap.size < W.heap.size := hdd.lt
          have hddx : (x, s).1 = x := rfl
          clear hx hff
          go_upto_region 9 with fail
          rw [← hW]
          clear hW
          go_cut [9] (fun u wx => u = .bool (getX X x).2 ∧ Below W.heap.size W wx)
          case first =>
            clear hd Hd2
            generalize (getX X x).2 = g2 at *
            generalize (getX X x).1 = g1 at *
            go_region_held3 (fun w' => w'.cell? ⟨b, 0, none⟩ = some (.pointer o) ∧ w'.cell? ⟨wr.heap.size, 0, none⟩ = some (.string x)) (first | exact kX4 _ _ | exact kX3 | exact kcd | exact kc | go_keep)
              (first
                | (go_at_call 60
                   refine (HGx.out _ ?_).mono ?_
                   · first | exact (Below.refl _ _).drew | exact ((Below.refl _ _).alloc (Nat.le_refl _) _).drew
                   rintro e w3 ⟨A3, n3, c3, B3, rs3, rfl, hR3, hb3⟩
                   have hb3' : Below W.heap.size W w3 := by first | exact ((Below.refl _ _).drew).trans hb3 | exact ((alloc_bw _ _).drew).trans (hb3.mono (by simp))
                   have kX3 := HE.out w3 hb3'
                   try
                     have hM3 : Blk w3 W.heap.size 77 #[.string ⟨#[]⟩, .slice none 0 0] := ((Blk.new W 77 #[.string ⟨#[]⟩, .slice none 0 0]).drew).below hb3 (by simp)
                     have fz0 := hM3.frozen 0
                     have fz1 := hM3.frozen 1
                     have kM0 : w3.cell? ⟨W.heap.size, 0, none⟩ = some (.string ⟨#[]⟩) := hM3.cell 0
                     have kM1 : w3.cell? ⟨W.heap.size, 1, none⟩ = some (.slice none 0 0) := hM3.cell 1
                     have kX4 := fun (u v : Value) => HE.out ((w3.setCell ⟨W.heap.size, 0, none⟩ u).setCell ⟨W.heap.size, 1, none⟩ v) ((hb3'.setCell (p := ⟨W.heap.size, 0, none⟩) (Nat.le_refl _) u).setCell (p := ⟨W.heap.size, 1, none⟩) (Nat.le_refl _) v)))
            all_goals (try go_wp2_with fail)
            all_goals (go_meet; first
              | exact ⟨rfl, hb3'.alloc hb3'.size _⟩
              | exact ⟨rfl, (hb3'.setCell (p := ⟨W.heap.size, 0, none⟩) (Nat.le_refl _) _).setCell (p := ⟨W.heap.size, 1, none⟩) (Nat.le_refl _) _⟩)
          case rest =>
            obtain ⟨rfl, hbk⟩ := hcut
            have hb10 := hbW.trans (hbk.mono hbW.size)
            have kw := HE.out wc hbk
            obtain ⟨kw1, kw2⟩ := kw
            have hb010 := hb0W.trans (hbk.mono hb0W.size)
            clear kc kcd HE
            cases g : (getX X x).2 with
            | false =>
              have e : Hid (R2 = some (x, s)) := hide (by rw [hd, g]; rfl)
              clear hd Hd2 g
              go_wp2
              refine ⟨rfl, ?_⟩
              exact .inr (.inl ⟨HR1.out.symm.trans e1.out, (x, s), HR2.out.symm.trans e.out, none, 0, 0, rfl, NewP.nil_ _ _, hb010⟩)
            | true =>
              have e : Hid (R2 = (root.drop (i + 1)).find? fun q : Nd => !(getX X q.1).2) := hide (by rw [hd, g]; rfl)
              clear hd Hd2 g
              go_wp2
              go_roundw
              case rel => exact ⟨i + 1, by omega, by go_num, e, hb10⟩
              case measure => simp [RowKit.intOf]; omega
        · have hi3 : i = nr := by omega
          have e2 : Hid (R2 = none) := hide <| by rw [hff.out, hi3, List.drop_of_length_le (by have := Hlen.out; omega)]; rfl
          clear hff
          go_wp2
          refine ⟨rfl, .tuple #[], results_none rfl _ _ _, ?_⟩
          exact .inr (.inr ⟨HR1.out.symm.trans e1.out, HR2.out.symm.trans e2.out, rfl, hbr⟩)
end
end Go.Proofs.YtmoeilkaadnnoaaGreat.Plain
