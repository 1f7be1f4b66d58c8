/-
  Some texts of this claim, one behind the other: PlainBegin, PlainRun. What each proves, and its condition, stands at its head.
-/
import Derived.Test.YtmoeilkaadnnoaaGreatY47
import Derived.Test.YtmoeilkaadnnoaaGreatY50
import Derived.Deep.RegionLaw
import Derived.Test.YtmoeilkaadnnoaaGreatY46
/-
  The contract of the search's begin: the least name that is open is taken, or the search ends. Condition: what is known is looked at.
-/
namespace Go.Proofs.YtmoeilkaadnnoaaGreat.Plain
open Go Go.RowKit Go.Lib Go.Sort Go.Proofs.YtmoeilkaadnnoaaGreat.Span Go.Proofs.YtmoeilkaadnnoaaGreat.Need Go.Proofs.YtmoeilkaadnnoaaGreat.Mani Go.Proofs.YtmoeilkaadnnoaaGreat.Wire Go.Proofs.YtmoeilkaadnnoaaGreat.Depot Go.Proofs.YtmoeilkaadnnoaaGreat.Index Go.Proofs.YtmoeilkaadnnoaaGreat.Reach Go.Proofs.YtmoeilkaadnnoaaGreat.Pick Go.Proofs.YtmoeilkaadnnoaaGreat.Fit Go.Proofs.YtmoeilkaadnnoaaGreat.MapV
set_option linter.unusedVariables false
theorem info_try : (Tryz.prog.info? 140).map (fun i => (i.zero, i.size, i.bytes)) = some (some (.agg #[.string ByteArray.empty, .slice none 0 0, .slice none 0 0]), 3, 64) := by kernel_rfl
section
variable {X : List Kn} {root : List Nd} {w0 : World} {b : Nat} {o Ar : Option Addr} {K nr : Nat} {fuel : Int}
theorem picks_sorted {R : List Fr} (hn : (namesR R).Nodup) (hs : Settled R) (hp : RisesP (picksR R)) {d : List Pk} (h1 : d.Perm (pairF (versR R) (memF X R))) (h2 : d.Pairwise fun x y => nlt y.1 x.1 = false) : d = picksR R := by
  have e1 : (pairF (versR R) (memF X R)).map Prod.fst = (namesR R).reverse := by
    unfold pairF memF namesR
    rw [List.map_map, List.map_map, List.map_reverse]
    rfl
  have hnd : (d.map Prod.fst).Nodup := by
    have := (h1.map Prod.fst).nodup_iff.2 (by rw [e1]; exact (List.reverse_perm _).nodup_iff.2 hn)
    exact this
  have hr : RisesP d := by
    have h3 : d.Pairwise fun x y => x.1 ≠ y.1 := List.pairwise_map.1 hnd
    refine List.Pairwise.imp ?_ (List.Pairwise.and h2 h3)
    rintro x y ⟨g1, g2⟩
    rcases Pick.nlt_cases x.1 y.1 with h | h | h
    · exact h
    · exact absurd h g2
    · rw [h] at g1; cases g1
  have hm : ∀ q : Pk, q ∈ d ↔ q ∈ picksR R := fun q => by
    rw [h1.mem_iff, mem_picks hn hp]
    unfold pairF memF
    rw [List.map_map, List.mem_map]
    constructor
    · rintro ⟨t, ht, rfl⟩
      have ht := List.mem_reverse.1 ht
      have e := frame_pick hn ht
      obtain ⟨v, hv⟩ := Option.isSome_iff_exists.1 (hs t ht)
      simp only [Function.comp]
      rw [e, hv]
      rfl
    · intro h
      obtain ⟨t, ht, e2, e3⟩ := vers_frame h
      refine ⟨t, List.mem_reverse.2 ht, ?_⟩
      simp only [Function.comp]
      rw [e2, h]
      rfl
  refine same_get hr hp fun x => ?_
  cases g : getP d x with
  | some v => exact (getP_mem hp ((hm _).1 (getP_in g))).symm
  | none =>
    cases g2 : getP (picksR R) x with
    | none => rfl
    | some v =>
      rw [getP_mem hr ((hm _).2 (getP_in g2))] at g
      cases g
theorem okR_short (hf : FineX X) (hr9 : ∀ q ∈ root, q.1.size ≤ 100) : ∀ {R : List Fr}, OkR X root R → ∀ u ∈ R, u.1.size ≤ 100
  | [], _, u, hu => by cases hu
  | t :: R, hR, u, hu => by
    obtain ⟨g1, g2, g3, g4, _⟩ := hR
    rcases List.mem_cons.1 hu with rfl | hu
    · exact next_short hf hr9 g4
    · exact okR_short hf hr9 g1 u hu
theorem srch_op {mr ma mv : Nat} {h : ByteArray → List (List S)} {vf : ByteArray → Option Int} {O O' : List ByteArray} {F : List Tr} {vo vo' vt : Value} {w : World} (hb : Blk w b 73 #[.pointer o, .int .i64 fuel, .map (some mr), .map (some ma), vo, .map (some mv), vt]) (hm : Mem X w0.heap.size mr ma mv vo vt K h vf O F w) (hBb : w0.heap.size ≤ b) (hbw : Below w0.heap.size w0 w) (ho : TxRow w w0.heap.size vo' O') :
    Srch X w0 b o K fuel h vf O' F vt (w.setCell ⟨b, 4, none⟩ vo') := by
  have hst : w.grownBy (w.setCell ⟨b, 4, none⟩ vo') (some b) := only_setCell (p := ⟨b, 4, none⟩) (only_self w b) (.inl rfl) _
  have hm1 := hm.blk hb (by decide) hst
  exact ⟨mr, ma, mv, vo', hb.set_ 4 vo', ⟨hm1.ra, hm1.rv, hm1.av, hm1.br, hm1.ba, hm1.bv, hm1.read, hm1.ask, ho.far (farT_blk hb (by decide)) hst, hm1.vers, hm1.tries⟩, hBb, hbw.setCell (p := ⟨b, 4, none⟩) hBb _⟩
theorem srch_push {h : ByteArray → List (List S)} {vf : ByteArray → Option Int} {O : List ByteArray} {F F' : List Tr} {vt v6 : Value} {w w1 : World} (g : Srch X w0 b o K fuel h vf O F vt w) {n : Nat} {xs : List Value} (hown : w.ownsRow w0.heap.size 140 3 vt n xs) (hg : w.grownBy w1 vt.ownBlock) (ht : TriesIn w1 w0.heap.size v6 F') :
    w1.cell? ⟨b, 6, none⟩ = some vt ∧ w1.frozen? ⟨b, 6, none⟩ = false ∧ Srch X w0 b o K fuel h vf O F' v6 (w1.setCell ⟨b, 6, none⟩ v6) := by
  obtain ⟨mr, ma, mv, vo, hb, hm, hBb, hbw⟩ := g
  have hrow : ∀ k, vt.ownBlock = some k → w0.heap.size ≤ k ∧ ∃ cur T m, w.heap[k]? = some (.cells cur T m) := fun k hk => by
    rcases hown.2 with ⟨e, _⟩ | ⟨q, cap, cur, e, hq0, hq, _⟩
    · rw [e] at hk; cases hk
    · rw [e] at hk
      injection hk with hk
      subst hk
      exact ⟨hq0, cur, _, _, hq⟩
  have Fr := fun (T : TypeId) (hT : T ≠ 140) => farT_own hown hT
  have hb1 := hb.grown hg (Fr _ (by decide) _ _ _ hb)
  have e1 : some mr ≠ vt.ownBlock := by obtain ⟨f, g1, _⟩ := hm.read; exact ne_map_far g1 fun k hk => (hrow k hk).2
  have e2 : some ma ≠ vt.ownBlock := by obtain ⟨f, g1, _⟩ := hm.ask; exact ne_map_far g1 fun k hk => (hrow k hk).2
  have e3 : some mv ≠ vt.ownBlock := ne_map_far hm.vers fun k hk => (hrow k hk).2
  have hm1 : Mem X w0.heap.size mr ma mv vo v6 K h vf O F' w1 := ⟨hm.ra, hm.rv, hm.av, hm.br, hm.ba, hm.bv, hm.read.far e1 (Fr _ (by decide)) (Fr _ (by decide)) (Fr _ (by decide)) hg, hm.ask.far e2 (Fr _ (by decide)) (Fr _ (by decide)) hg, hm.op.far (Fr _ (by decide)) hg, OwnTold.kept hm.vers hg e3, ht⟩
  have hst : w1.grownBy (w1.setCell ⟨b, 6, none⟩ v6) (some b) := only_setCell (p := ⟨b, 6, none⟩) (only_self w1 b) (.inl rfl) _
  have hbw1 : Below w0.heap.size w0 w1 := Below.grown hbw hg hbw.size (fun k e => (hrow k e).1)
  exact ⟨hb1.cell 6, hb1.frozen 6, mr, ma, mv, vo, hb1.set_ 6 v6, hm1.blk hb1 (by decide) hst, hBb, hbw1.setCell (p := ⟨b, 6, none⟩) hBb _⟩
theorem reads_try (w : World) (nm : ByteArray) (A : Option Addr) (n c : Nat) (T : TypeId) (g : Nat) (hg : g = w.heap.size) :
    Reads (w.alloc (.cells #[.string nm, .slice A n c, .slice none 0 0] T)) (w.heap.size + 1) 3 (some ⟨g, 0, none⟩) 1 (trcs [(nm, .slice A n c, .slice none 0 0)]) := by
  subst hg
  have h := Reads.newL w T #[.string nm, .slice A n c, .slice none 0 0]
  exact ⟨rfl, fun _ => h.2 (by simp)⟩
theorem one_try (nm : ByteArray) (A : Option Addr) (n c : Nat) : ∀ u ∈ trcs [(nm, .slice A n c, .slice none 0 0)], u.oneCell' = true := by
  intro u hu
  simp only [trcs, List.mem_cons, List.not_mem_nil, or_false] at hu
  rcases hu with rfl | rfl | rfl <;> rfl
theorem tries_push {w w1 : World} {B n : Nat} {vt v6 : Value} {rs : List Tv} {F : List Tr} {nm : ByteArray} {A : Option Addr} {m c : Nat} {L : List Int} (hown : w.ownsRow B 140 3 vt n (trcs rs)) (hall : AllT w rs F) (hown1 : w1.ownsRow B 140 3 v6 (n + 1) (trcs rs ++ trcs [(nm, .slice A m c, .slice none 0 0)])) (hg : w.grownBy w1 vt.ownBlock) (hmc : m ≤ c) (hI : IntT w A m L) :
    TriesIn w1 B v6 (F ++ [(nm, L, [])]) := by
  have Fr := fun (T : TypeId) (hT : T ≠ 140) => farT_own hown hT
  have hl : n = F.length := by have h1 := hown.1; rw [trcs_length, hall.1] at h1; omega
  have h2 := hall.far (Fr _ (by decide)) (Fr _ (by decide)) (Fr _ (by decide)) hg
  refine ⟨rs ++ [(nm, .slice A m c, .slice none 0 0)], by rw [trcs_append, List.length_append, ← hl]; exact hown1, by rw [List.length_append, List.length_append, h2.1]; rfl, fun i r q hr hq => ?_⟩
  by_cases hi : i < rs.length
  · rw [List.getElem?_append_left hi] at hr
    rw [List.getElem?_append_left (by rw [← h2.1]; exact hi)] at hq
    exact h2.2 i r q hr hq
  · rw [List.getElem?_append_right (by omega)] at hr
    rw [List.getElem?_append_right (by rw [← h2.1]; omega), ← h2.1] at hq
    have e0 : i - rs.length = 0 := by
      have := (List.getElem?_eq_some_iff.1 hr).1
      simp at this
      omega
    rw [e0] at hr hq
    injection hr with hr
    injection hq with hq
    subst hr hq
    exact ⟨rfl, ⟨A, m, c, rfl, hmc, hI.far (Fr _ (by decide)) hg⟩, none, 0, 0, rfl, InN.nil _⟩
theorem step_append_t {P : Program} {ops : Array Oper} {o : Oper} {a : Act} {w : World} {K : Act → World → Prop} {Q : Exit → Act → World → Prop} {E : Prop} (hgd : o.guard = none) (s x : Operand) (t : TypeId)
    (ho : o.op = .call { callee := .builtin .append, args := #[s, x], argTypes := #[t, t] })
    (base : Nat) (e : TypeId) (i : TypeInfo) (z : Value) (size bytes : Nat) (ht : P.underlying t = some (.slice e)) (hi : P.info? e = some i) (hz : i.zero = some z)
    (hsize : i.size = size) (hby : i.bytes = bytes) (hzs : z.cells.size = size) (hsz : 0 < size)
    (v : Value) (n : Nat) (xs : List Value) (hs : a.eval s = v) (hown : w.ownsRow base e size v n xs)
    (B : Nat) (A : Option Addr) (m c : Nat) (news : List Value) (hx : a.eval x = .slice A m c) (hr : Reads w B size A m news) (h1 : ∀ u ∈ news, u.oneCell' = true)
    (h63 : n + m ≤ maxLen) (hbytes : (n + m) * bytes ≤ 140737488355328) (hbase : base ≤ w.heap.size)
    (h : ∀ v' w', w'.ownsRow base e size v' (n + m) (xs ++ news) → w.grownBy w' v.ownBlock → (v'.ownBlock = v.ownBlock ∨ v'.ownBlock = some w.heap.size) → K (a.put o.dst v') w') :
    if Region.wanted o (yielded ops a.tmps) = true then Oper.wp P o a w K Q else E := by
  have hw : Region.wanted o (yielded ops a.tmps) = true := by simp [Region.wanted, hgd]
  rw [if_pos hw]
  exact wp_append_any w s x t ho base e i z size bytes ht hi hz hsize hby hzs hsz v n xs hs hown B A m c news hx hr h1 h63 hbytes hbase h
def Begins (X : List Kn) (root : List Nd) (w0 : World) (b : Nat) (o : Option Addr) (K : Nat) (R : List Fr) (fuel : Int) (RT : Plain.Told) (e : Ending) (w' : World) : Prop :=
  EndsP w0 RT e w' ∨ (e = .returned (.tuple #[]) ∧ ∃ R' : List Fr, InvS X root w0 b o (K + 1) R' fuel w' ∧ RT = resA X root R' fuel.toNat)
set_option maxHeartbeats 8000000 in
set_option maxRecDepth 100000 in
theorem beginS_any (root0 : AskedP X root (.pointer o) Ar nr w0) (R : List Fr) (w : World) (g : InvS X root w0 b o K R fuel w) (hset : Settled R) (hd : deadX X root (picksR R) = false) (hK : K ≤ 900000) :
    Calls Tryz.prog 52 #[.pointer (some ⟨b, 0, none⟩)] w (Begins X root w0 b o K R fuel (resB X root R fuel.toNat)) := by
  have hmx : maxLen = 9223372036854775807 := by unfold maxLen; omega
  obtain ⟨⟨_, hX⟩, hf, hS, hv, hXl, hr, hn, hok, hr9⟩ := root0
  have HX0 := hide hX
  obtain ⟨hR, ⟨O, vt, hst, hop, hlen⟩, hfine⟩ := g
  have hnx := open_next hS hv hok hR hset hop
  have hXl2 := okR_len hS hv hok hR
  obtain ⟨RT, hRT⟩ : ∃ RT, RT = resB X root R fuel.toNat := ⟨_, rfl⟩
  rw [← hRT]
  unfold Begins
  have hst0 := hst
  obtain ⟨mr, ma, mv, vo, hb, hm, hBb, hbw⟩ := hst0
  obtain ⟨A, n, c, rfl⟩ : ∃ A n c, vo = .slice A n c := by
    rcases hm.op with ⟨e, _⟩ | ⟨g, off, cap, N, f, e, _⟩
    · exact ⟨_, _, _, e⟩
    · exact ⟨_, _, _, e⟩
  have hon := hm.op.len
  have k4 : w.cell? ⟨b, 4, none⟩ = some (.slice A n c) := hb.cell 4
  have k0 : w.cell? ⟨b, 0, none⟩ = some (.pointer o) := hb.cell 0
  have HF100 : ∀ t ∈ memF X R, t.1.size ≤ 100 := fun t ht => by
    unfold memF at ht
    obtain ⟨u, hu, rfl⟩ := List.mem_map.1 ht
    exact okR_short hf hr9 hR u (List.mem_reverse.1 hu)
  cases O with
  | nil =>
    have hn0 : n = 0 := by have := hon.1; simp at this; omega
    subst hn0
    have HRT : Hid (RT = .found (picksR R)) := hide (hRT.trans (resB_done hd hnx))
    have hway := okR_way hS hv hok hR
    have HPk := hide (picksS_any w hst HF100 (by rw [memF_len]; omega))
    have Hps := hide (fun (d : List Pk) (h1 : d.Perm (pairF (versR R) (memF X R))) (h2 : d.Pairwise fun x y => nlt y.1 x.1 = false) => picks_sorted (X := X) (okR_nodup hR) hset (okP_iff.1 hway.ok).1 h1 h2)
    clear hst hop hfine hR hRT hX hm hb hway hnx hd hset HF100
    go_enter Tryz.func52, Tryz.ntmps52
    go_wp2_with (first
      | (go_at_call 76
         refine HPk.out.mono ?_
         rintro e w1 ⟨A1, n1, c1, d, rfl, hdp, hds, hN1, hb1⟩))
    refine ⟨rfl, ?_⟩
    have ed := Hps.out d hdp hds
    rw [HRT.out]
    refine .inl ⟨A1, n1, c1, rfl, ?_, hbw.trans (hb1.mono hbw.size)⟩
    show NewP w1 0 A1 n1 c1 (picksR R)
    rw [← ed]
    exact ⟨hN1.1, hN1.2.1, own_less hN1.2.2.1 (Nat.zero_le _), hN1.2.2.2⟩
  | cons x O =>
    have hnx : nextX X root (picksR R) = some x := hnx
    have hxs : x.size ≤ 100 := next_short hf hr9 hnx
    obtain ⟨g0, off, rfl, kx⟩ := hm.op.at_ (j := 0) (x := x) rfl
    rw [Nat.add_zero] at kx
    have hon1 : O.length + 1 = n := hon.1
    have hon2 : n ≤ c := hon.2
    have htail := hm.op.tail
    have i1 : ((n : Int) == 0) = false := beq_eq_false_iff_ne.2 (by omega)
    have i2 : (0 : Int) < (n : Int) := by omega
    have i3 : (1 : Int) ≤ (n : Int) := by omega
    have i4 : (n : Int) ≤ (c : Int) := by omega
    have HHs := hide ((HX0.out x w hbw (by omega)).2)
    cases hk : atX X x with
    | none =>
      rw [hk] at HHs
      have HRT : Hid (RT = .lacks x) := hide (hRT.trans (resB_lack hd hnx hk))
      clear hst hop hfine hR hRT hX hm hb hnx hd hset HF100 htail hon1 hon
      go_enter Tryz.func52, Tryz.ntmps52
      go_wp2_with (first
        | (go_at_call 47
           refine HHs.out.mono ?_
           rintro e w1 ⟨rfl, rfl⟩))
      refine ⟨rfl, ?_⟩
      rw [HRT.out]
      exact .inl ⟨none, 0, 0, rfl, NewP.nil_ _ _, hbw⟩
    | some kk =>
      rw [hk] at HHs
      have HRT : Hid (RT = resA X root ((x, none, downS kk.1 (askedX X root (picksR R) x)) :: R) fuel.toNat) := hide (hRT.trans (resB_push hd hnx hk))
      have hOk2 : OkR X root ((x, none, downS kk.1 (askedX X root (picksR R) x)) :: R) := ⟨hR, hset, hd, hnx, kk, hk, fun v h => (by cases h), fun v h => h⟩
      have hasked := asked_hist hS hv hok hR x
      have hgx : (getX X x).1 = kk.1 := by unfold getX; rw [hk]; rfl
      have hop2 := hop.take_
      have f4 := hb.frozen 4
      have Hst5 := hide (fun (vo' : Value) (ho : TxRow w w0.heap.size vo' O) => srch_op hb hm hBb hbw ho)
      have hkx : (histR X root R x).length ≤ 1000000 := by have := (hfine x).1; omega
      have hkm := hfine.in_ x
      clear hst hR hRT hX hm hb hnx hd hset HF100 hon hop
      go_enter Tryz.func52, Tryz.ntmps52
      by_cases hc1 : c = 1
      case' pos =>
        have htail : TxRow w w0.heap.size (.slice (some ⟨g0, off, none⟩) (n - 1) 0) O := by
          rw [if_pos hc1, hc1] at htail
          exact htail
        have hS5 := Hst5.out _ htail
        go_upto_region 6 with (first
          | (go_at_call 47
             refine HHs.out.mono ?_
             rintro e w1 ⟨rfl, rfl⟩))
        generalize w.setCell ⟨b, 4, none⟩ (.slice (some ⟨g0, off, none⟩) (n - 1) 0) = W5 at hS5 ⊢
      case' neg =>
        have htail : TxRow w w0.heap.size (.slice (some ⟨g0, off + 1, none⟩) (n - 1) (c - 1)) O := by
          rw [if_neg hc1] at htail
          exact htail
        have hS5 := Hst5.out _ htail
        go_upto_region 6 with (first
          | (go_at_call 47
             refine HHs.out.mono ?_
             rintro e w1 ⟨rfl, rfl⟩))
        generalize w.setCell ⟨b, 4, none⟩ (.slice (some ⟨g0, off + 1, none⟩) (n - 1) (c - 1)) = W5 at hS5 ⊢
      all_goals
        clear htail Hst5 HHs k4 k0 kx f4 i1 i2 i3 i4 hc1
        obtain ⟨i0, hi0, hz0, hz1, hz2⟩ := info_parts info_try
        obtain ⟨mr5, ma5, mv5, vo5, hb5, hm5, hBb5, hbw5⟩ := id hS5
        have k6 : W5.cell? ⟨b, 6, none⟩ = some vt := hb5.cell 6
        have k6d : W5.drew.cell? ⟨b, 6, none⟩ = some vt := k6
        have HMn := hide (manifestP_any x W5.drew (hS5.below (Below.refl _ _).drew) HX0.out (by omega) (by omega))
        unfold Manis at HMn
        have HIn := hide (fun (wx : World) (h1 : Srch X w0 b o (K + 1) fuel (histR X root R) (versR R) O (memF X R) vt wx) => inP_any x wx h1 hkx (by omega))
        unfold Makes at HIn
        have HDn := hide (fun (Aa : Option Addr) (na ca : Nat) (Ab : Option Addr) (nb cb : Nat) (wx : World) (h1 : RlOn wx Aa na (getX X x).1) (h2 : SpOn wx Ab nb (inH (histR X root R x))) (h3 : nb ≤ 1000000001) => downO_any x (getX X x).1 Aa na ca Ab nb cb (inH (histR X root R x)) wx h1 (by rw [← h1.len]; exact (hf.get x).1) h2 h3)
        unfold MakesO at HDn
        have hFl : (memF X R).length ≤ 1000 := by rw [memF_len]; omega
        clear hb5 hm5 hBb5 hbw5
        go_region_law (first
          | (refine step_append_t rfl (.tmp 41) (.tmp 51) _ rfl w0.heap.size 140 i0 _ 3 64 Tryz.underlying71 hi0 hz0 hz1 hz2 rfl h03 vt (memF X R).length (trcs rs4) rfl hown4 _ _ 1 _ _ rfl hrd4 (one_try _ _ _ _) hmx4 hby4 hsz4 ?_
             intro v6 w6 hown6 hg6 hat6
             obtain ⟨A6, c6, rfl, _⟩ := own_form hown6
             have ht6 := tries_push hown4 hall4 hown6 hg6 hi4.2 hi4.1
             obtain ⟨k66, f66, hS6⟩ := srch_push hT4 hown4 hg6 ht6)
          | (go_simp
             go_at_call 78
             refine HMn.out.mono ?_
             rintro e w1 ⟨A1, n1, c1, B1, rs1, rfl, hR1, hS1, _, _⟩
             have k61 : w1.cell? ⟨b, 6, none⟩ = some vt := by obtain ⟨_, _, _, _, h, _⟩ := hS1; exact h.cell 6
             have hR1o : RlOn w1 A1 n1 (getX X x).1 := by
               obtain ⟨A', c', e, _, h⟩ := hR1.told
               injection e with e1 _ _
               rw [e1]
               exact h
             dsimp only)
          | (go_simp
             go_at_call 74
             refine (HIn.out w1 hS1).mono ?_
             rintro e w2 ⟨A2, n2, c2, rfl, hS2, hb2⟩
             have hT2 := hS1.below hb2
             have k62 : w2.cell? ⟨b, 6, none⟩ = some vt := by obtain ⟨_, _, _, _, h, _⟩ := hT2; exact h.cell 6
             dsimp only)
          | (go_simp
             go_at_call 77
             refine (HDn.out _ _ _ _ _ _ _ (RlOn.on hR1o hb2) hS2 (by have h1 : (inH (histR X root R x)).length = n2 := hS2.1; have h2 := hkm.2; omega)).mono ?_
             rintro e w3 ⟨A3, n3, c3, rfl, hI3, hb3⟩
             have hT3 := hT2.below hb3
             have k63 : w3.cell? ⟨b, 6, none⟩ = some vt := by obtain ⟨_, _, _, _, h, _⟩ := hT3; exact h.cell 6
             have hT4 := hT3.below (alloc_bw w3 (.cells #[.string x, .slice A3 n3 c3, .slice none 0 0] 140))
             have k64 : (w3.alloc (.cells #[.string x, .slice A3 n3 c3, .slice none 0 0] 140)).cell? ⟨b, 6, none⟩ = some vt := by obtain ⟨_, _, _, _, h, _⟩ := hT4; exact h.cell 6
             obtain ⟨rs4, hown4, hall4⟩ : TriesIn _ w0.heap.size vt (memF X R) := by obtain ⟨_, _, _, _, _, h, _⟩ := hT4; exact h.tries
             have hsz4 : w0.heap.size ≤ (w3.alloc (.cells #[.string x, .slice A3 n3 c3, .slice none 0 0] 140)).heap.size := by obtain ⟨_, _, _, _, _, _, _, h⟩ := hT4; exact h.size
             have hi4 := intT_of (own_below hI3 (alloc_bw w3 (.cells #[.string x, .slice A3 n3 c3, .slice none 0 0] 140)))
             have hrd4 := reads_try w3 x A3 n3 c3 140 w3.heap.size rfl
             have h03 : 0 < 3 := by omega
             have hmx4 : (memF X R).length + 1 ≤ maxLen := by omega
             have hby4 : ((memF X R).length + 1) * 64 ≤ 140737488355328 := by omega
             dsimp only))
        all_goals
          go_wp2
          refine ⟨rfl, .tuple #[], results_none rfl _ _ _, ?_⟩
          have hxR : versR R x = none := by
            cases e2 : versR R x with
            | none => rfl
            | some u =>
              obtain ⟨t', ht', e3, _⟩ := vers_frame e2
              exact absurd (List.mem_map.2 ⟨t', ht', e3⟩) (List.nodup_cons.1 (okR_nodup hOk2)).1
          refine .inr ⟨rfl, _, ⟨hOk2, ⟨O, _, hS6.to (fun a => rfl) (fun a => ?_) ?_, hop2.congr fun a => rfl, ?_⟩, fun a => (hfine.mono (Nat.le_succ K)) a⟩, HRT.out⟩
          · rw [versR]
            by_cases e : x = a
            · rw [if_pos e, ← e]; exact hxR
            · rw [if_neg e]
          · rw [memF_cons, hgx, ← hasked]
            rfl
          · rw [List.length_cons] at hlen ⊢
            omega
end
end Go.Proofs.YtmoeilkaadnnoaaGreat.Plain
/-
  The contract of the search's run: it ends by a panic that tells what the search comes to. Condition: what is known is looked at; at most 2000 versions are tried.
-/
namespace Go.Proofs.YtmoeilkaadnnoaaGreat.Plain
open Go Go.RowKit Go.Lib Go.Sort Go.Proofs.YtmoeilkaadnnoaaGreat.Span Go.Proofs.YtmoeilkaadnnoaaGreat.Need Go.Proofs.YtmoeilkaadnnoaaGreat.Mani Go.Proofs.YtmoeilkaadnnoaaGreat.Wire Go.Proofs.YtmoeilkaadnnoaaGreat.Depot Go.Proofs.YtmoeilkaadnnoaaGreat.Index Go.Proofs.YtmoeilkaadnnoaaGreat.Reach Go.Proofs.YtmoeilkaadnnoaaGreat.Pick Go.Proofs.YtmoeilkaadnnoaaGreat.Fit Go.Proofs.YtmoeilkaadnnoaaGreat.MapV
set_option linter.unusedVariables false
section
variable {X : List Kn} {root : List Nd} {w0 : World} {b : Nat} {o Ar : Option Addr} {K nr cr : Nat} {fuel : Int}
def fuelW (b : Nat) (w : World) : Nat := match w.cell? ⟨b, 1, none⟩ with
  | some (.int _ z) => z.toNat
  | _ => 0
def triesW (b : Nat) (w : World) : Nat := match w.cell? ⟨b, 6, none⟩ with
  | some (.slice _ n _) => n
  | _ => 0
theorem InvS.fuelW {R : List Fr} {w : World} (g : InvS X root w0 b o K R fuel w) : fuelW b w = fuel.toNat ∧ triesW b w = R.length := by
  obtain ⟨_, ⟨O, vt, ⟨mr, ma, mv, vo, hb, hm, _⟩, _⟩, _⟩ := g
  have h1 : w.cell? ⟨b, 1, none⟩ = some (.int .i64 fuel) := hb.cell 1
  have h6 : w.cell? ⟨b, 6, none⟩ = some vt := hb.cell 6
  obtain ⟨rs, g1, _⟩ := hm.tries
  obtain ⟨A, c, rfl, _⟩ := own_form g1
  unfold Plain.fuelW Plain.triesW
  rw [h1, h6]
  exact ⟨rfl, memF_len X R⟩
set_option maxHeartbeats 8000000 in
set_option maxRecDepth 100000 in
theorem runS_any (root0 : AskedP X root (.pointer o) Ar nr w0) (w : World) (vt : Value) (g : Srch X w0 b o 50 fuel (fun _ => []) (fun _ => none) [] [] vt w) (hz1 : -9223372036854775808 ≤ fuel) (hz2 : fuel ≤ 2000) :
    Calls Tryz.prog 27 #[.pointer (some ⟨b, 0, none⟩), .slice Ar nr cr] w (EndsP w0 (solveX X root fuel.toNat)) := by
  obtain ⟨RT, hRT⟩ : ∃ RT, RT = solveX X root fuel.toNat := ⟨_, rfl⟩
  rw [← hRT]
  have HRT := hide hRT
  clear hRT
  have hbw : Below w0.heap.size w0 w := by obtain ⟨_, _, _, _, _, _, _, h⟩ := g; exact h
  have HK := hide (show Calls Tryz.prog 50 #[.pointer (some ⟨b, 0, none⟩), .slice Ar nr cr] w (Knowns X root w0 w) by
    obtain ⟨mr, ma, mv, vo, hb, _⟩ := g
    exact knownS_any root0 w hb rfl hbw)
  have hroot := root0
  obtain ⟨_, hf, hS, hv, hXl, hr, hn, hok, hr9⟩ := hroot
  have HA := hide (fun (wx : World) (h1 : Below w.heap.size w wx) => askS_any (fun _ => []) [] root Ar nr cr wx (g.below h1) (.inr hr) hok hr9 ⟨List.Pairwise.nil, fun a => by simp⟩ (fun a ha => by cases ha) (by simp) (by omega) (fun a => ⟨by simp, fun s hs => by cases hs⟩))
  unfold Asks at HA
  have HB := hide (fun (K : Nat) (R : List Fr) (z : Int) (wx : World) (h1 : InvS X root w0 b o K R z wx) (h2 : Settled R) (h3 : deadX X root (picksR R) = false) (h4 : K ≤ 900000) => beginS_any root0 R wx h1 h2 h3 h4)
  have HG := hide (fun (K : Nat) (R : List Fr) (z : Int) (wx : World) (h1 : InvS X root w0 b o K R z wx) (h2 : K ≤ 900000) (h3 : -9223372036854775808 ≤ z) (h4 : z ≤ 2000) => againS_any root0 R wx h1 h2 h3 h4)
  have HLk := hide (fun (q : Nd) (h : root.find? (fun q : Nd => (atX X q.1).isNone) = some q) => (show RT = .lacks q.1 by rw [HRT.out]; unfold solveX; rw [h]))
  have HBk := hide (fun (q : Nd) (h1 : root.find? (fun q : Nd => (atX X q.1).isNone) = none) (h : root.find? (fun q : Nd => !(getX X q.1).2) = some q) => (show RT = .broken q.1 by rw [HRT.out]; unfold solveX; rw [h1, h]))
  have HGo := hide (fun (h1 : root.find? (fun q : Nd => (atX X q.1).isNone) = none) (h : root.find? (fun q : Nd => !(getX X q.1).2) = none) => (show RT = resB X root [] fuel.toNat by rw [HRT.out]; exact solve_res h1 h))
  unfold Knowns at HK
  clear root0 hf hS hv hXl hr hn hok hr9 g HRT
  go_enter Tryz.func27, Tryz.ntmps27
  go_wp2_with (first
    | (go_at_call 50
       refine HK.out.mono ?_
       rintro e w1 (⟨q, hq, A1, n1, c1, rfl, hN1, hb1⟩ | ⟨hq0, q, hq, A1, n1, c1, rfl, hN1, hb1⟩ | ⟨hq1, hq2, rfl, hb1⟩))
    | (go_at_call 51
       refine (HA.out w1 hb1).mono ?_
       rintro e w2 ⟨rfl, ⟨O2, hS2, hO2, hl2⟩, hF2, hr2⟩))
  case inl =>
    refine ⟨rfl, ?_⟩
    rw [show RT = _ from HLk.out q hq]
    exact ⟨A1, n1, c1, rfl, hN1, hb1⟩
  case inr.inl =>
    refine ⟨rfl, ?_⟩
    rw [show RT = _ from HBk.out q hq0 hq]
    exact ⟨A1, n1, c1, rfl, hN1, hb1⟩
  have hI0 : InvS X root w0 b o 100 [] fuel w2 := ⟨trivial, ⟨O2, vt, (hS2.to (fun a => rfl) (fun a => rfl) rfl).mono (by omega), hO2.congr fun a => rfl, by simp at hl2 ⊢; omega⟩, fun a => (hF2.mono (show 50 + 6 ≤ 100 by omega)) a⟩
  have HI0 := hide hI0
  have HR0 := hide (HGo.out hq1 hq2)
  clear hI0 hS2 hO2 hl2 hF2 hr2 hb1 hbw HK HA HLk HBk HGo hq1 hq2
  obtain ⟨F0, hF0⟩ : ∃ F0, F0 = fuel.toNat := ⟨_, rfl⟩
  rw [← hF0] at HR0
  have HF0 := hide hF0
  have hF2 : F0 ≤ 2000 := by omega
  clear hF0
  go_loopw [] (fun wr => ∃ (R : List Fr) (z : Int), InvS X root w0 b o (100 + 40 * (F0 - z.toNat)) R z wr ∧ Settled R ∧ deadX X root (picksR R) = false ∧ RT = resB X root R z.toNat ∧ z.toNat ≤ F0 ∧ -9223372036854775808 ≤ z ∧ z ≤ 2000) (fun wr => fuelW b wr)
  case atStart => exact ⟨[], fuel, by rw [HF0.out, Nat.sub_self]; exact HI0.out, (fun t ht => by cases ht), rfl, by rw [← HF0.out]; exact HR0.out, by rw [HF0.out]; exact Nat.le_refl _, hz1, hz2⟩
  case round =>
    obtain ⟨R, z, hI, hRs, hRd, hRT, hz0, hz3, hz4⟩ := hrel
    have HBx := hide (HB.out _ R z wr hI hRs hRd (by omega))
    unfold Begins at HBx
    have hfw := hI.fuelW.1
    rw [← hRT] at HBx
    have Hfw := hide hfw
    clear hI hRs hRd hRT HB HI0 HR0 HF0 hfw
    go_wp2_with (first
      | (go_at_call 52
         refine HBx.out.mono ?_
         rintro e w3 (⟨A1, n1, c1, rfl, hN1, hb1⟩ | ⟨rfl, R', hI', hRT'⟩)))
    case inl =>
      refine ⟨rfl, ?_⟩
      exact ⟨A1, n1, c1, rfl, hN1, hb1⟩
    have HI1 := hide (hI'.mono (show 100 + 40 * (F0 - z.toNat) + 1 ≤ 101 + 40 * (F0 - z.toNat) by omega))
    have HRT1 := hide hRT'
    clear hI' hRT' HBx
    go_loopw [] (fun wq => ∃ (R : List Fr) (y : Int), InvS X root w0 b o (101 + 40 * (F0 - y.toNat)) R y wq ∧ RT = resA X root R y.toNat ∧ y.toNat ≤ z.toNat ∧ -9223372036854775808 ≤ y ∧ y ≤ 2000) (fun wq => fuelW b wq + triesW b wq)
    case atStart => exact ⟨R', z, HI1.out, HRT1.out, Nat.le_refl _, hz3, hz4⟩
    case round =>
      obtain ⟨R2, y, hI2, hRT2, hy, hy3, hy4⟩ := hrel
      have HGx := hide (HG.out _ R2 y wr hI2 (by omega) hy3 hy4)
      unfold Agains at HGx
      have hfy := hI2.fuelW
      rw [← hRT2] at HGx
      have Hfy := hide hfy
      clear hI2 hRT2 hfy HI1 HRT1
      go_wp2_with (first
        | (go_at_call 53
           refine HGx.out.mono ?_
           rintro e w4 (⟨A1, n1, c1, rfl, hN1, hb1⟩ | ⟨rfl, R3, x, hI3, hRT3, hm3, hx3, hx4, hx5⟩ | ⟨rfl, R3, x, hI3, hRs3, hRd3, hRT3, hx3, hx4, hx5⟩)))
      case inl =>
        refine ⟨rfl, ?_⟩
        exact ⟨A1, n1, c1, rfl, hN1, hb1⟩
      · go_roundw
        case rel => exact ⟨R3, x, hI3.mono (by omega), hRT3, by omega, hx4, by omega⟩
        case measure =>
          have h1 := hI3.fuelW
          rw [h1.1, h1.2, Hfy.out.1, Hfy.out.2]
          exact hm3
      · go_roundw
        case rel => exact ⟨R3, x, hI3.mono (by omega), hRs3, hRd3, hRT3, by omega, hx4, by omega⟩
        case measure =>
          have h1 := hI3.fuelW
          rw [h1.1, Hfw.out]
          omega
end
end Go.Proofs.YtmoeilkaadnnoaaGreat.Plain
