/-
  Some texts of this claim, one behind the other: MapI, JudgeMakers, JudgeClashes. What each proves, and its condition, stands at its head.
-/
import Derived.Test.YtdmejcfnolhplaaGreatZA1
import Derived.Test.YtdmejcfnolhplaaGreatChecked
import Derived.Maps.OwnSet
import Derived.Maps.Keyed
import Derived.Test.YtdmejcfnolhplaaGreatZA39
import Derived.Test.YtdmejcfnolhplaaGreatZA49
import Derived.Test.YtdmejcfnolhplaaGreatZA45
import Derived.Test.YtdmejcfnolhplaaGreatZA53
import Derived.Deep.RegionHeld3
import Derived.Laws.EntriesVeiled
import Derived.Test.YtdmejcfnolhplaaGreatZA51
import Derived.Test.YtdmejcfnolhplaaGreatZA48
import Derived.Test.YtdmejcfnolhplaaGreatZA46
/-
  Maps from numbers to any values that a call has made (functions that stand in a map by kinds), told by a list of numbers and values: made, put in, looked up. No condition. Of no type of the program but int.
-/
namespace Go.Proofs.YtdmejcfnolhplaaGreat.MapI
open Go Go.RowKit Go.Lib Go.Maps
set_option linter.unusedVariables false
def elemI (v : Value) : Option (DataW Value × List MemPlace) := some (.held v, [])
abbrev Iv := Int × Value
def lookI : List Iv → Int → Option Value
  | [], _ => none
  | q :: t, n => if q.1 = n then some q.2 else lookI t n
def ToldI (D : DataW Value) (l : List Iv) : Prop := Maps.Tidy D ∧ ∀ (x : Int) (v : Value), lookI l x = some v → ∀ zd, D.atKey (.int .i64 x) zd = .held v
theorem key_lit (x : Int) : WideAt.IsKeyLit (.int .i64 x) := by first | exact trivial | simp [WideAt.IsKeyLit] | constructor
theorem ToldI.put {D : DataW Value} {l : List Iv} (h : ToldI D l) (x : Int) (v : Value) : ToldI (D.put (.int .i64 x) (.held v)) ((x, v) :: l) := by
  obtain ⟨h1, h2⟩ := h
  refine ⟨h1.put (key_lit _) _, fun y u hy zd => ?_⟩
  unfold lookI at hy
  by_cases e : x = y
  · rw [if_pos e] at hy
    injection hy with hy
    rw [← e, Maps.atKey_put_same h1.isMap (key_lit _), ← hy]
  · rw [if_neg e] at hy
    rw [Maps.atKey_put_other (fun h => e (by injection h with _ h; exact h.symm))]
    exact h2 y u hy zd
def OwnI (w : World) (b n : Nat) (l : List Iv) : Prop := ∃ D, w.ownsMap Tryz.prog 3 elemI b n D ∧ ToldI D l
section
variable {w w' : World} {b n : Nat} {l : List Iv}
theorem OwnI.made (w : World) : OwnI (w.alloc (.map #[] 0)) w.heap.size 0 [] := ⟨_, World.ownsMap_made w _ _ _, Maps.tidy_empty, fun x v h => by cases h⟩
theorem OwnI.kept {row : Option Nat} (h : OwnI w b n l) (hg : w.grownBy w' row) (hne : some b ≠ row) : OwnI w' b n l := by
  obtain ⟨D, h1, h2⟩ := h
  exact ⟨D, h1.kept hg hne, h2⟩
theorem OwnI.below (h : OwnI w b n l) (hb : Below w.heap.size w w') : OwnI w' b n l := h.kept (only_of_below hb none) (by simp)
theorem keyedI : Maps.Keyed Tryz.prog 3 := Maps.int_keyed Tryz.underlying3
theorem key_ofI (x : Int) (h : (Lit.int .i64 x).wf = true) : keyOf Tryz.prog 3 (.int .i64 x) = some (.int .i64 x) := Maps.keyOf_int_mk Tryz.underlying3 h
set_option maxRecDepth 100000 in
theorem OwnI.look (h : OwnI w b n l) {t e : TypeId} (ht : Tryz.prog.underlying t = some (.map 3 e)) {z : Value} (hz : (zeroValue e).run Tryz.prog w = .ok z w) {x : Int} (hx : (Lit.int .i64 x).wf = true) {v : Value} (hv : lookI l x = some v) :
    (Instr.lookup t (.map (some b)) (.int .i64 x) false).run Tryz.prog w = .ok v w := by
  obtain ⟨D, h1, h2⟩ := h
  obtain ⟨u, ps, hrun, hu⟩ := h1.lookup keyedI ht hz (show elemI z = some (.held z, []) from rfl) (key_ofI x hx)
  rw [h2.2 x v hv] at hu
  unfold elemI at hu
  injection hu with hu
  injection hu with hu
  injection hu with hu
  rw [hrun, hu]
end
section
variable (w : World) {ops : Array Oper} {rest : List Oper} {o : Oper} {a : Act} {Q : Exit → Act → World → Prop}
theorem wpList_insI (hg : o.guard = none) (m x v : Operand) (t e : TypeId) (hop : o.op = Op.insert t m x v) (ht : Tryz.prog.underlying t = some (.map 3 e))
    (b n : Nat) (l : List Iv) (hm : a.eval m = .map (some b)) (hown : OwnI w b n l) (hn : n < maxLen) (k : Int) (val : Value) (hx : a.eval x = .int .i64 k) (hv : a.eval v = val) (hs : (Lit.int .i64 k).wf = true)
    (hK : ∀ w', OwnI w' b (n + 1) ((k, val) :: l) → w.grownBy w' (some b) → wpList Tryz.prog ops Q rest (a.put o.dst undef) w') :
    wpList Tryz.prog ops Q (o :: rest) a w := by
  obtain ⟨D, h1, h2⟩ := hown
  refine wpList_plain hg fun K' hK' => ?_
  obtain ⟨w', hrun, r1, r2⟩ := h1.store keyedI ht hn (key_ofI k hs) (show elemI val = some (.held val, []) from rfl)
  unfold Oper.wp
  simp [execOp, hop, hm, hx, hv, hrun, Result.andThen]
  exact hK' _ _ (hK w' ⟨_, r1, h2.put k val⟩ r2.grown)
end
end Go.Proofs.YtdmejcfnolhplaaGreat.MapI
/-
  Contracts of the program's makers: a map of four functions by the kinds of steps, and each of the four: the clash of one step. Condition: needs that may be; an index that was put together; clashes ahead that may be.
-/
namespace Go.Proofs.YtdmejcfnolhplaaGreat.Judge
open Go Go.RowKit Go.Lib Go.Proofs.YtdmejcfnolhplaaGreat.Label Go.Proofs.YtdmejcfnolhplaaGreat.Span Go.Proofs.YtdmejcfnolhplaaGreat.Need Go.Proofs.YtdmejcfnolhplaaGreat.Mani Go.Proofs.YtdmejcfnolhplaaGreat.Index Go.Proofs.YtdmejcfnolhplaaGreat.Pick Go.Proofs.YtdmejcfnolhplaaGreat.Fit Go.Proofs.YtdmejcfnolhplaaGreat.Term Go.Proofs.YtdmejcfnolhplaaGreat.Clash Go.Proofs.YtdmejcfnolhplaaGreat.Proof Go.Proofs.YtdmejcfnolhplaaGreat.MapI
open Go.Proofs.YtdmejcfnolhplaaGreat.Fact (askedC releasedC neededC OkX TmR MakesR FcR FcIn FcOn Fcs AllF AskX typedAskedF typedReleasedF typedNeededF joinR_any)
set_option linter.unusedVariables false
def fAsk (B : Nat) : Value := .func (.func 49) #[] #[.pointer (some ⟨B, 0, none⟩)]
def fRel (B : Nat) : Value := .func (.func 51) #[] #[.pointer (some ⟨B, 0, none⟩)]
def fNeed (B : Nat) : Value := .func (.func 53) #[] #[.pointer (some ⟨B, 0, none⟩)]
def fJoin : Value := .func (.func 55) #[] #[]
def tabJ (B : Nat) : List Iv := [(4, fJoin), (3, fNeed B), (2, fRel B), (1, fAsk (B + 1))]
set_option maxHeartbeats 4000000 in
set_option maxRecDepth 100000 in
theorem makers_any (pv : Value) (Ar : Option Addr) (nr cr : Nat) (w : World) (hpv : ∃ o, pv = .pointer o) :
    Calls Tryz.prog 31 #[pv, .slice Ar nr cr] w fun e w' => ∃ g, e = .returned (.map (some g)) ∧ OwnI w' g 4 (tabJ w.heap.size) ∧ Blk w' w.heap.size 29 #[pv] ∧ Blk w' (w.heap.size + 1) 23 #[.slice Ar nr cr] ∧ Below w.heap.size w w' := by
  obtain ⟨o, rfl⟩ := hpv
  obtain ⟨W, hW⟩ : ∃ W, W = (w.alloc (.cells #[.pointer o] 29)).alloc (.cells #[.slice Ar nr cr] 23) := ⟨_, rfl⟩
  have hbW : Below w.heap.size w W := by rw [hW]; exact ((Below.refl _ _).alloc (Nat.le_refl _) _).alloc (by simp) _
  have ba : Blk W w.heap.size 29 #[.pointer o] := by rw [hW]; exact (Blk.new w _ _).alloc _
  have bb : Blk W (w.heap.size + 1) 23 #[.slice Ar nr cr] := by
    rw [hW]
    have := Blk.new (w.alloc (.cells #[.pointer o] 29)) 23 #[.slice Ar nr cr]
    rwa [World.size_alloc] at this
  have Hsz := hide (show W.heap.size = w.heap.size + 2 by rw [hW]; simp)
  have h0 : OwnI (W.alloc (.map #[] 0)) W.heap.size 0 [] := OwnI.made W
  have hb0 : Below W.heap.size W (W.alloc (.map #[] 0)) := (Below.refl _ _).alloc (Nat.le_refl _) _
  have hmf : ∀ (fn : Fn) (first cap : Array Value) (w : World), (Instr.makeFunc fn first cap).run Tryz.prog w = .ok (.func fn first cap) w := fun _ _ _ _ => rfl
  have Hend := hide (fun (w4 : World) (g4 : Nat) (hg : OwnI w4 g4 4 (tabJ w.heap.size)) (hb : Below W.heap.size W w4) => (show OwnI w4 g4 4 (tabJ w.heap.size) ∧ Blk w4 w.heap.size 29 #[.pointer o] ∧ Blk w4 (w.heap.size + 1) 23 #[.slice Ar nr cr] ∧ Below w.heap.size w w4 from
    ⟨hg, ba.below hb ba.lt, bb.below hb bb.lt, hbW.trans (hb.mono hbW.size)⟩))
  have hmm := @run_makeMap Tryz.prog
  clear ba bb
  go_enter Tryz.func31, Tryz.ntmps31
  go_upto_region 1 with fail
  try rw [← hW]
  clear hW
  go_wp2_with (first
    | (refine wpList_insI _ rfl _ _ _ _ _ rfl Tryz.underlying70 W.heap.size 3 _ rfl h3 (by decide) 4 fJoin rfl rfl (by decide) ?_
       intro w4 h4 hg4
       have hb4 := hb3.grown hg4 (by have := hb3.size; omega) (fun k hk => by injection hk with hk; omega))
    | (refine wpList_insI _ rfl _ _ _ _ _ rfl Tryz.underlying70 W.heap.size 2 _ rfl h2 (by decide) 3 (fNeed w.heap.size) rfl rfl (by decide) ?_
       intro w3 h3 hg3
       have hb3 := hb2.grown hg3 (by have := hb2.size; omega) (fun k hk => by injection hk with hk; omega))
    | (refine wpList_insI _ rfl _ _ _ _ _ rfl Tryz.underlying70 W.heap.size 1 _ rfl h1 (by decide) 2 (fRel w.heap.size) rfl rfl (by decide) ?_
       intro w2 h2 hg2
       have hb2 := hb1.grown hg2 (by have := hb1.size; omega) (fun k hk => by injection hk with hk; omega))
    | (refine wpList_insI _ rfl _ _ _ _ _ rfl Tryz.underlying70 W.heap.size 0 _ rfl h0 (by decide) 1 (fAsk (w.heap.size + 1)) rfl rfl (by decide) ?_
       intro w1 h1 hg1
       have hb1 := hb0.grown hg1 (by have := hb0.size; omega) (fun k hk => by injection hk with hk; omega)))
  trace_state
  go_ret
  exact ⟨W.heap.size, rfl, Hend.out w4 W.heap.size h4 hb4⟩
set_option maxHeartbeats 4000000 in
set_option maxRecDepth 100000 in
theorem maker1_any (root : List Nd) (Ar : Option Addr) (nr cr : Nat) (k : Int) (nm : ByteArray) (v : Int) (d : ByteArray) (a b : Int) (Ao : Option Addr) (no co B : Nat) (w : World) (hB : Blk w B 23 #[.slice Ar nr cr]) (hr : NdOn w Ar nr root) (hnr : nr ≤ 40) (hok : okS root = true) (hnm : nm.size ≤ 1000000000) :
    Calls Tryz.prog 49 #[.agg #[.int .i64 k, .string nm, .int .i64 v, .string d, .int .i64 a, .int .i64 b], .slice Ao no co, .pointer (some ⟨B, 0, none⟩)] w (MakesR w (askedC root nm)) := by
  obtain ⟨W0, hW0⟩ : ∃ W0, W0 = w.alloc (.cells #[.int .i64 k, .string nm, .int .i64 v, .string d, .int .i64 a, .int .i64 b] 53) := ⟨_, rfl⟩
  have hbW0 : Below w.heap.size w W0 := by rw [hW0]; exact Proof.alloc_b _ _
  have bS : Blk W0 w.heap.size 53 #[.int .i64 k, .string nm, .int .i64 v, .string d, .int .i64 a, .int .i64 b] := by rw [hW0]; exact Blk.new w _ _
  have bB := hB.below hbW0 hB.lt
  have k0 := bB.cell 0
  have s1 := bS.cell 1
  have HC := hide (typedAskedF root nm Ar nr cr W0 (hr.on hbW0) hnr hok hnm)
  unfold MakesR at HC ⊢
  generalize askedC root nm = R at *
  clear hB bS bB hr hok
  go_enter Tryz.func49, Tryz.ntmps49
  go_upto_region 1 with fail
  try rw [← hW0]
  clear hW0
  go_wp2_with (first
    | (go_at_call 50
       refine HC.out.mono ?_
       rintro e w1 ⟨A1, n1, c1, rfl, h1, hb1⟩))
  go_ret2
  exact ⟨A1, n1, c1, rfl, h1, hbW0.trans (hb1.mono hbW0.size)⟩
set_option maxHeartbeats 4000000 in
set_option maxRecDepth 100000 in
theorem maker2_any (X : List Kn) (pv : Value) (k : Int) (nm : ByteArray) (v : Int) (d : ByteArray) (a b : Int) (Ao : Option Addr) (no co B : Nat) (w : World) (hB : Blk w B 29 #[pv]) (hA : AskX X pv w) (hnm : nm.size ≤ 1000000000) :
    Calls Tryz.prog 51 #[.agg #[.int .i64 k, .string nm, .int .i64 v, .string d, .int .i64 a, .int .i64 b], .slice Ao no co, .pointer (some ⟨B, 0, none⟩)] w (MakesR w (releasedC X nm)) := by
  obtain ⟨p, rfl⟩ : ∃ o, pv = .pointer o := hA.1
  obtain ⟨W0, hW0⟩ : ∃ W0, W0 = w.alloc (.cells #[.int .i64 k, .string nm, .int .i64 v, .string d, .int .i64 a, .int .i64 b] 53) := ⟨_, rfl⟩
  have hbW0 : Below w.heap.size w W0 := by rw [hW0]; exact Proof.alloc_b _ _
  have bS : Blk W0 w.heap.size 53 #[.int .i64 k, .string nm, .int .i64 v, .string d, .int .i64 a, .int .i64 b] := by rw [hW0]; exact Blk.new w _ _
  have bB := hB.below hbW0 hB.lt
  have k0 := bB.cell 0
  have s1 := bS.cell 1
  have HC := hide (typedReleasedF X nm (.pointer p) W0 (hA.on hbW0) hnm)
  unfold MakesR at HC ⊢
  generalize releasedC X nm = R at *
  clear hB bS bB hA
  go_enter Tryz.func51, Tryz.ntmps51
  go_upto_region 1 with fail
  try rw [← hW0]
  clear hW0
  go_wp2_with (first
    | (go_at_call 52
       refine HC.out.mono ?_
       rintro e w1 ⟨A1, n1, c1, rfl, h1, hb1⟩))
  go_ret2
  exact ⟨A1, n1, c1, rfl, h1, hbW0.trans (hb1.mono hbW0.size)⟩
set_option maxHeartbeats 4000000 in
set_option maxRecDepth 100000 in
theorem maker3_any (X : List Kn) (pv : Value) (k : Int) (nm : ByteArray) (v : Int) (d : ByteArray) (a b : Int) (Ao : Option Addr) (no co B : Nat) (w : World) (hB : Blk w B 29 #[pv]) (hA : AskX X pv w) (hnm : nm.size ≤ 1000000000) (hd : d.size ≤ 1000000000) :
    Calls Tryz.prog 53 #[.agg #[.int .i64 k, .string nm, .int .i64 v, .string d, .int .i64 a, .int .i64 b], .slice Ao no co, .pointer (some ⟨B, 0, none⟩)] w (MakesR w (neededC X nm v d)) := by
  obtain ⟨p, rfl⟩ : ∃ o, pv = .pointer o := hA.1
  obtain ⟨W0, hW0⟩ : ∃ W0, W0 = w.alloc (.cells #[.int .i64 k, .string nm, .int .i64 v, .string d, .int .i64 a, .int .i64 b] 53) := ⟨_, rfl⟩
  have hbW0 : Below w.heap.size w W0 := by rw [hW0]; exact Proof.alloc_b _ _
  have bS : Blk W0 w.heap.size 53 #[.int .i64 k, .string nm, .int .i64 v, .string d, .int .i64 a, .int .i64 b] := by rw [hW0]; exact Blk.new w _ _
  have bB := hB.below hbW0 hB.lt
  have k0 := bB.cell 0
  have s1 := bS.cell 1
  have s2 := bS.cell 2
  have s3 := bS.cell 3
  have HC := hide (typedNeededF X nm v d (.pointer p) W0 (hA.on hbW0) hnm hd)
  unfold MakesR at HC ⊢
  generalize neededC X nm v d = R at *
  clear hB bS bB hA
  go_enter Tryz.func53, Tryz.ntmps53
  go_upto_region 1 with fail
  try rw [← hW0]
  clear hW0
  go_wp2_with (first
    | (go_at_call 54
       refine HC.out.mono ?_
       rintro e w1 ⟨A1, n1, c1, rfl, h1, hb1⟩))
  go_ret2
  exact ⟨A1, n1, c1, rfl, h1, hbW0.trans (hb1.mono hbW0.size)⟩
def FewJ (c : List Tm) : Prop := OkC c ∧ c.length ≤ 240 ∧ sumC c ≤ 1080
theorem FewJ.fine {c : List Tm} (h : FewJ c) : FineC c := ⟨by have := h.2.1; omega, by have := h.2.2; omega, fun t ht => by have := Label.fit_small t.name (okT_fit (h.1.2 t ht).1); omega⟩
set_option maxHeartbeats 8000000 in
set_option maxRecDepth 100000 in
theorem maker4_any (X : List Kn) (root : List Nd) (nm : ByteArray) (v : Int) (d : ByteArray) (i j : Nat) (o : List (List Tm)) (Ao : Option Addr) (no co : Nat) (w : World) (ho : FcR w Ao no o) (hno : no ≤ 1000000) (hi : i < no) (hj : j < no) (hfew : ∀ c ∈ o, FewJ c) (hnm : nm.size ≤ 1000000000) :
    Calls Tryz.prog 55 #[.agg #[.int .i64 4, .string nm, .int .i64 v, .string d, .int .i64 (i : Int), .int .i64 (j : Int)], .slice Ao no co] w (MakesR w (oneC X root ⟨4, nm, v, d, i, j⟩ o)) := by
  obtain ⟨W0, hW0⟩ : ∃ W0, W0 = w.alloc (.cells #[.int .i64 4, .string nm, .int .i64 v, .string d, .int .i64 (i : Int), .int .i64 (j : Int)] 53) := ⟨_, rfl⟩
  have hbW0 : Below w.heap.size w W0 := by rw [hW0]; exact Proof.alloc_b _ _
  have bS : Blk W0 w.heap.size 53 #[.int .i64 4, .string nm, .int .i64 v, .string d, .int .i64 (i : Int), .int .i64 (j : Int)] := by rw [hW0]; exact Blk.new w _ _
  unfold MakesR
  have ho0 := ho.on hbW0
  obtain ⟨ad, ca, Aa, na, caa, eA, hbl, hxa, hta, q1⟩ := ho0.at_ hi
  obtain ⟨ad', cb, Ab, nb, cbb, eA', hbl', hxb, htb, q2⟩ := ho0.at_ hj
  obtain rfl : ad = ad' := by rw [eA] at eA'; injection eA'
  subst eA
  have f1 := hfew ca (List.mem_of_getElem? hxa)
  have f4 := hfew cb (List.mem_of_getElem? hxb)
  have e : oneC X root ⟨4, nm, v, d, i, j⟩ o = joinC ca cb nm := by
    unfold oneC
    rw [if_neg (show ¬ (4 : Int) = 1 by decide), if_neg (show ¬ (4 : Int) = 2 by decide), if_neg (show ¬ (4 : Int) = 3 by decide)]
    simp only [Int.toNat_natCast]
    rw [hxa, hxb]
    rfl
  rw [e]
  have hla := hta.len
  have hlb := htb.len
  have HC := hide (fun (wx : World) (hx : Below W0.heap.size W0 wx) => joinR_any ca cb nm Aa Ab na caa nb cbb wx (hta.on hx).in_ (htb.on hx).in_ f1.fine f4.fine (okC_iff.2 f1.1) (okC_iff.2 f4.1) (by have := f1.2.2; have := f4.2.2; omega) (by have := f1.2.1; have := f4.2.1; omega) hnm)
  unfold MakesR at HC
  have s1 := bS.cell 1
  have s4 := bS.cell 4
  have s5 := bS.cell 5
  have HS := hide (fun (wx : World) (hx : Below W0.heap.size W0 wx) => (show wx.cell? ⟨w.heap.size, 1, none⟩ = some (.string nm) ∧ wx.cell? ⟨w.heap.size, 4, none⟩ = some (.int .i64 (i : Int)) ∧ wx.cell? ⟨w.heap.size, 5, none⟩ = some (.int .i64 (j : Int)) ∧ wx.cell? (ad.add i) = some (.slice Aa na caa) ∧ wx.cell? (ad.add j) = some (.slice Ab nb cbb) from
    ⟨((bS.below hx bS.lt).cell 1), ((bS.below hx bS.lt).cell 4), ((bS.below hx bS.lt).cell 5), (hx.cell (p := ad.add i) (by rw [block_of_add]; exact hbl)).trans q1, (hx.cell (p := ad.add j) (by rw [block_of_add]; exact hbl)).trans q2⟩))
  have hi1 : (0 : Int) ≤ (i : Int) := by omega
  have hi2 : (i : Int) < (no : Int) := by omega
  have hj1 : (0 : Int) ≤ (j : Int) := by omega
  have hj2 : (j : Int) < (no : Int) := by omega
  have kd0 : Below W0.heap.size W0 W0.drew := (Below.refl _ _).drew
  generalize joinC ca cb nm = R at *
  clear e ho hfew hxa hxb hta htb f1 f4 ho0 hla hlb q1 q2 bS hnm
  go_enter Tryz.func55, Tryz.ntmps55
  go_upto_region 1 with fail
  try rw [← hW0]
  clear hW0
  go_region_held3 (fun w' => w'.cell? ⟨w.heap.size, 1, none⟩ = some (.string nm) ∧ w'.cell? ⟨w.heap.size, 4, none⟩ = some (.int .i64 (i : Int)) ∧ w'.cell? ⟨w.heap.size, 5, none⟩ = some (.int .i64 (j : Int)) ∧ w'.cell? (ad.add i) = some (.slice Aa na caa) ∧ w'.cell? (ad.add j) = some (.slice Ab nb cbb)) (first | exact HS.out _ hk1 | exact HS.out _ kd0 | go_keep)
    (first
      | (go_at_call 56
         refine (HC.out _ kd0).mono ?_
         rintro e w1 ⟨A1, n1, c1, rfl, h1, hb1⟩
         have hk1 : Below W0.heap.size W0 w1 := kd0.trans hb1))
  all_goals
    go_wp2
    go_ret2
    exact ⟨A1, n1, c1, rfl, h1, hbW0.trans (hk1.mono hbW0.size)⟩
end Go.Proofs.YtdmejcfnolhplaaGreat.Judge
/-
  Contracts of the program's Clashes, Last and Accept of a proof's steps. Condition: needs that may be; an index that was put together; at most 120 steps.
-/
namespace Go.Proofs.YtdmejcfnolhplaaGreat.Judge
open Go Go.RowKit Go.Lib Go.Proofs.YtdmejcfnolhplaaGreat.Label Go.Proofs.YtdmejcfnolhplaaGreat.Span Go.Proofs.YtdmejcfnolhplaaGreat.Need Go.Proofs.YtdmejcfnolhplaaGreat.Mani Go.Proofs.YtdmejcfnolhplaaGreat.Index Go.Proofs.YtdmejcfnolhplaaGreat.Pick Go.Proofs.YtdmejcfnolhplaaGreat.Fit Go.Proofs.YtdmejcfnolhplaaGreat.Term Go.Proofs.YtdmejcfnolhplaaGreat.Clash Go.Proofs.YtdmejcfnolhplaaGreat.Proof Go.Proofs.YtdmejcfnolhplaaGreat.MapI
open Go.Proofs.YtdmejcfnolhplaaGreat.Fact (askedC releasedC neededC OkX TmR MakesR FcR FcIn FcOn Fcs AllF AskX info_terms one_sliceJ)
set_option linter.unusedVariables false
set_option linter.unusedSimpArgs false
theorem zero_maker (w : World) : (zeroValue 73).run Tryz.prog w = .ok .nilFunc w := by kernel_rfl
theorem step_names {l : List Sp} (h : okPf l = true) : NamesJ l := fun s hs => by
  have h := ok_all_steps h s hs
  obtain ⟨h1, h2, h3, h4, h5, h6⟩ := h
  refine ⟨by omega, ?_⟩
  by_cases k : s.kind = 3
  · have := (h3 k).2; omega
  · rw [(h4 k).1]; decide
noncomputable def madeC (X : List Kn) (root : List Nd) (l : List Sp) : List (List Tm) := if okPf l = true then clashC X root l [] else []
theorem made_len (X : List Kn) (root : List Nd) (l : List Sp) : (madeC X root l).length ≤ l.length := by
  unfold madeC
  split
  · have := (clash_grows (X := X) (root := root) l []).2
    simpa using this
  · exact Nat.zero_le _
set_option maxHeartbeats 8000000 in
set_option maxRecDepth 100000 in
theorem clashesJ_any (X : List Kn) (root : List Nd) (l : List Sp) (pv : Value) (Ar A : Option Addr) (nr cr n c : Nat) (w : World) (hA : AskX X pv w) (h8 : EightX X) (hr : NdOn w Ar nr root) (hnr : nr ≤ 40) (hok : okS root = true) (h : PfOn w A n l) (hl : NamesJ l) (hn : n ≤ 120) :
    Calls Tryz.prog 15 #[pv, .slice Ar nr cr, .slice A n c] w fun e w' => ∃ A' n' c', e = .returned (.tuple #[.slice A' n' c', .int .i64 (n' : Int)]) ∧ n' ≤ c' ∧ FcOn w' A' n' (madeC X root l) ∧ Below w.heap.size w w' := by
  have HC := hide (checkPf_any l A n c w h (by omega) hl)
  obtain ⟨pp, rfl⟩ : ∃ o, pv = .pointer o := hA.1
  unfold madeC
  cases ho : okPf l with
  | false =>
    rw [ho] at HC
    rw [if_neg (by simp)]
    clear ho hA h8 hr hok h hl
    go_enter Tryz.func15, Tryz.ntmps15
    go_wp2_with (first
      | (go_at_call 30
         refine HC.out.mono ?_
         rintro e w1 ⟨rfl, hb1⟩))
    go_ret2
    exact ⟨none, 0, 0, rfl, Nat.le_refl _, FcIn.nil _ _ _, hb1⟩
  | true =>
    rw [ho] at HC
    rw [if_pos rfl]
    obtain ⟨_, hm, h1⟩ := okPf_steps ho
    obtain ⟨i0, hi0, hz0, hz1, hz2⟩ := info_parts info_terms
    have hlen := h.len
    have hmay : ∀ s ∈ l, ∃ i, mayS s i = true := fun s hs => by
      obtain ⟨i, hi, e⟩ := List.mem_iff_getElem.1 hs
      exact ⟨i, hm i s (by rw [← e]; simp)⟩
    have Hstep := hide (fun (i : Nat) (s : Sp) (o : List (List Tm)) (hs : l[i]? = some s) => clash_step (X := X) (root := root) (o := o) hs)
    have Hmay := hide (fun (i : Nat) (s : Sp) (hs : l[i]? = some s) => hm i s hs)
    have Hone := hide (fun (i : Nat) (s : Sp) (hs : l[i]? = some s) (o : List (List Tm)) (ho : ∀ d ∈ o, InvC (prsS X root l) (nmsS X root l) d) (c : List Tm) (hc : oneC X root s o = some c) => inv_one hA.2.2 h8 hok (List.mem_of_getElem? hs) (hm i s hs) ho hc)
    have Hfew := hide (fun (o : List (List Tm)) (ho : ∀ d ∈ o, InvC (prsS X root l) (nmsS X root l) d) => (show ∀ d ∈ o, FewJ d from fun d hd => ⟨(ho d hd).1, inv_fine hA.2.2 h8 hok hmay (by omega) (ho d hd)⟩))
    have Hnames := hide (fun (i : Nat) (s : Sp) (hs : l[i]? = some s) => hl s (List.mem_of_getElem? hs))
    have HM := hide (fun (wx : World) => makers_any (.pointer pp) Ar nr cr wx ⟨pp, rfl⟩)
    have HK0 := hide (fun (wx : World) (hx : Below w.heap.size w wx) => (show AskX X (.pointer pp) wx ∧ NdOn wx Ar nr root ∧ PfOn wx A n l from ⟨hA.on hx, hr.on hx, h.on hx⟩))
    obtain ⟨F, hF⟩ : ∃ F, F = clashC X root l [] := ⟨_, rfl⟩
    rw [← hF]
    have HF : Hid (clashC X root (l.drop 0) [] = F) := hide hF.symm
    have Hend : Hid (∀ o, clashC X root (l.drop n) o = o) := hide (fun o => by rw [List.drop_of_length_le (by omega)]; rfl)
    clear hF ho hA h8 hr h hm h1 hl hmay hlen
    go_enter Tryz.func15, Tryz.ntmps15
    go_wp2_with (first
      | (go_at_call 31
         refine (HM.out _).mono ?_
         rintro e w2 ⟨g, rfl, hM0, bX0, bN0, hb2x⟩
         have hbw2 := hb1.trans (hb2x.mono hb1.size))
      | (go_at_call 30
         refine HC.out.mono ?_
         rintro e w1 ⟨rfl, hb1⟩))
    obtain ⟨B, hB⟩ : ∃ B, B = w1.heap.size := ⟨_, rfl⟩
    rw [← hB] at hM0 bX0 bN0
    have HK := hide (fun (wx : World) (hx : Below w2.heap.size w2 wx) => (show AskX X (.pointer pp) wx ∧ NdOn wx Ar nr root ∧ OwnI wx g 4 (tabJ B) ∧ Blk wx B 29 #[.pointer pp] ∧ Blk wx (B + 1) 23 #[.slice Ar nr cr] from
      ⟨(HK0.out w2 hbw2).1.on hx, (HK0.out w2 hbw2).2.1.on hx, hM0.below hx, bX0.below hx bX0.lt, bN0.below hx bN0.lt⟩))
    have HP := hide (fun (wx : World) (hx : Below w2.heap.size w2 wx) (i : Nat) (hi : i < n) => PfIn.at_ (PfIn.below (HK0.out w2 hbw2).2.2 hx) hi)
    clear hB hM0 bX0 bN0 hb2x HK0 HM HC hb1
    go_loopw [8, 22] (fun u p wr => ∃ (i : Nat) (vs : List Value) (o : List (List Tm)), i ≤ n ∧ p = .int .i64 (i : Int) ∧ Fcs wr w2.heap.size u i vs o ∧ Hid (clashC X root (l.drop i) o = F) ∧ Hid (∀ d ∈ o, InvC (prsS X root l) (nmsS X root l) d) ∧ Below w2.heap.size w2 wr) (fun _ p _ => n - (RowKit.intOf p).toNat)
    case atStart => exact ⟨0, [], [], by omega, rfl, Fcs.nil_ _ _, HF, hide (fun d hd => by cases hd), Below.refl _ _⟩
    case round =>
      obtain ⟨i, vs, o, hi, rfl, hFc, hff, hinv, hb⟩ := hrel
      clear HF
      have hbs := hb.size
      obtain ⟨Ao, co, rfl, hco, hfr⟩ := hFc.toldR
      by_cases hlt : i < n
      · obtain ⟨ad, q, rfl, hbl, hx, p0, p1, p2, p3, p4, p5⟩ := HP.out wr hb i hlt
        have hst := Hstep.out i _ o hx
        rw [hff.out] at hst
        have Hi1 := hide (Hone.out i _ hx o hinv.out)
        have hmi := Hmay.out i _ hx
        have hnq := Hnames.out i _ hx
        have hfo := Hfew.out o hinv.out
        obtain ⟨k, nm, v, d, a, b⟩ := q
        simp only [] at p0 p1 p2 p3 p4 p5 hnq
        obtain ⟨hnm, hd⟩ := hnq
        have hkk : 1 ≤ k ∧ k ≤ 4 := (may_kind hmi).1
        have hi1 : (0 : Int) ≤ (i : Int) := by omega
        have hi2 : (i : Int) < (n : Int) := by omega
        have HInv := hide hinv.out
        clear hx hff hinv HP Hstep Hmay Hone Hfew Hnames
        by_cases k1 : k = 1
        · subst k1
          obtain ⟨W5, hW5⟩ : ∃ W, W = wr.alloc (.cells #[.int .i64 1, .string nm, .int .i64 v, .string d, .int .i64 a, .int .i64 b] 53) := ⟨_, rfl⟩
          have hA5 : Below wr.heap.size wr W5 := by rw [hW5]; exact Proof.alloc_b _ _
          have bS : Blk W5 wr.heap.size 53 #[.int .i64 1, .string nm, .int .i64 v, .string d, .int .i64 a, .int .i64 b] := by rw [hW5]; exact Blk.new _ _ _
          have hb5 := hb.trans (hA5.mono hbs)
          obtain ⟨hAx, hNd, hMx, hbX, hbN⟩ := HK.out W5 hb5
          have c0 := (bS.cell 0).trans (show (#[Value.int .i64 1, .string nm, .int .i64 v, .string d, .int .i64 a, .int .i64 b] : Array Value)[0]? = some (.int .i64 1) from rfl)
          have c1 := (bS.cell 1).trans (show (#[Value.int .i64 1, .string nm, .int .i64 v, .string d, .int .i64 a, .int .i64 b] : Array Value)[1]? = some (.string nm) from rfl)
          have c2 := (bS.cell 2).trans (show (#[Value.int .i64 1, .string nm, .int .i64 v, .string d, .int .i64 a, .int .i64 b] : Array Value)[2]? = some (.int .i64 v) from rfl)
          have c3 := (bS.cell 3).trans (show (#[Value.int .i64 1, .string nm, .int .i64 v, .string d, .int .i64 a, .int .i64 b] : Array Value)[3]? = some (.string d) from rfl)
          have c4 := (bS.cell 4).trans (show (#[Value.int .i64 1, .string nm, .int .i64 v, .string d, .int .i64 a, .int .i64 b] : Array Value)[4]? = some (.int .i64 a) from rfl)
          have c5 := (bS.cell 5).trans (show (#[Value.int .i64 1, .string nm, .int .i64 v, .string d, .int .i64 a, .int .i64 b] : Array Value)[5]? = some (.int .i64 b) from rfl)
          have hlk : (Instr.lookup 70 (.map (some g)) (.int .i64 1) false).run Tryz.prog W5 = .ok (.func (.func 49) #[] #[.pointer (some ⟨(B + 1), 0, none⟩)]) W5 := OwnI.look hMx Tryz.underlying70 (zero_maker W5) (by decide) rfl
          have HO := hide (maker1_any root Ar nr cr 1 nm v d a b Ao i co (B + 1) W5 hbN hNd hnr hok hnm)
          have e : oneC X root ⟨1, nm, v, d, a, b⟩ o = askedC root nm := by unfold oneC; rw [if_pos rfl]
          rw [← e] at HO
          clear e
          unfold MakesR at HO
          generalize oneC X root ⟨1, nm, v, d, a, b⟩ o = R at *
          have hFc5 := hFc.below hA5
          have hfr5 := hfr.on hA5
          have hb5s := hb5.size
          clear hMx hbX hbN hAx hNd bS hmi hfo hkk hnm hd hFc hfr HK
          cases R with
          | none =>
            have e : Hid (o = F) := hide hst.symm
            clear hst Hi1
            go_upto_region 8 with fail
            try rw [← hW5]
            clear hW5 p0 p1 p2 p3 p4 p5
            go_wp2_with (first
              | (go_at_call 49
                 refine HO.out.mono ?_
                 rintro e6 w6 ⟨A6, n6, c6, rfl, h6, hb6⟩
                 have hfr6 := hfr5.on hb6
                 have hb6w := hb5.trans (hb6.mono hb5s)))
            go_ret2
            exact ⟨_, _, _, rfl, hco, by rw [← e.out]; exact hfr6.fc, hbw2.trans (hb6w.mono hbw2.size)⟩
          | some cc =>
            have e : Hid (clashC X root (l.drop (i + 1)) (o ++ [cc]) = F) := hide hst.symm
            have Hin2 : Hid (∀ d ∈ o ++ [cc], InvC (prsS X root l) (nmsS X root l) d) := hide (fun d hd => by
              rcases List.mem_append.1 hd with hd | hd
              · exact HInv.out d hd
              · rw [List.mem_singleton.1 hd]; exact Hi1.out cc rfl)
            clear hst Hi1
            go_upto_region 8 with fail
            try rw [← hW5]
            clear hW5 p0 p1 p2 p3 p4 p5
            go_wp2_with (first
              | (go_at_call 49
                 refine HO.out.mono ?_
                 rintro e6 w6 ⟨A1, n1, c1, rfl, h6, hb6⟩
                 have hFc6 := hFc5.below hb6
                 have hb6w := hb5.trans (hb6.mono hb5s)
                 have hb6s := hb6w.size)
              | (at_builtin
                 refine wpList_append_any _ rfl (.tmp 38) (.tmp 40) _ rfl w2.heap.size 41 i0 _ 1 24 Tryz.underlying37 hi0 hz0 hz1 hz2 rfl (by omega) _ i vs rfl
                   (own_below hFc6.1 (Proof.alloc_b _ _)) _ _ 1 _ _ rfl (Reads.new1 _ _ _) (one_sliceJ _ _ _) (by unfold maxLen; omega) (by omega) (by simp; omega) ?_
                 intro v3 w3 hown3 hg3 hat3
                 have hA3 := Proof.alloc_b w6 (.cells #[.slice A1 n1 c1] 41)
                 have hF3 := (hFc6.below hA3).cat (AllF.one (k := c1) (h6.on hA3)) hown3 hg3
                 have hb3 : Below w2.heap.size w2 w3 := (hb6w.trans (hA3.mono hb6s)).grown hg3 (by simp; omega) (fun kb hkb => (hFc6.1.lt kb hkb).1)))
            go_roundw
            case rel => exact ⟨i + 1, _, _, by omega, by go_num, hF3, e, Hin2, hb3⟩
            case measure => simp [RowKit.intOf]; omega
        by_cases k2 : k = 2
        · subst k2
          obtain ⟨W5, hW5⟩ : ∃ W, W = wr.alloc (.cells #[.int .i64 2, .string nm, .int .i64 v, .string d, .int .i64 a, .int .i64 b] 53) := ⟨_, rfl⟩
          have hA5 : Below wr.heap.size wr W5 := by rw [hW5]; exact Proof.alloc_b _ _
          have bS : Blk W5 wr.heap.size 53 #[.int .i64 2, .string nm, .int .i64 v, .string d, .int .i64 a, .int .i64 b] := by rw [hW5]; exact Blk.new _ _ _
          have hb5 := hb.trans (hA5.mono hbs)
          obtain ⟨hAx, hNd, hMx, hbX, hbN⟩ := HK.out W5 hb5
          have c0 := (bS.cell 0).trans (show (#[Value.int .i64 2, .string nm, .int .i64 v, .string d, .int .i64 a, .int .i64 b] : Array Value)[0]? = some (.int .i64 2) from rfl)
          have c1 := (bS.cell 1).trans (show (#[Value.int .i64 2, .string nm, .int .i64 v, .string d, .int .i64 a, .int .i64 b] : Array Value)[1]? = some (.string nm) from rfl)
          have c2 := (bS.cell 2).trans (show (#[Value.int .i64 2, .string nm, .int .i64 v, .string d, .int .i64 a, .int .i64 b] : Array Value)[2]? = some (.int .i64 v) from rfl)
          have c3 := (bS.cell 3).trans (show (#[Value.int .i64 2, .string nm, .int .i64 v, .string d, .int .i64 a, .int .i64 b] : Array Value)[3]? = some (.string d) from rfl)
          have c4 := (bS.cell 4).trans (show (#[Value.int .i64 2, .string nm, .int .i64 v, .string d, .int .i64 a, .int .i64 b] : Array Value)[4]? = some (.int .i64 a) from rfl)
          have c5 := (bS.cell 5).trans (show (#[Value.int .i64 2, .string nm, .int .i64 v, .string d, .int .i64 a, .int .i64 b] : Array Value)[5]? = some (.int .i64 b) from rfl)
          have hlk : (Instr.lookup 70 (.map (some g)) (.int .i64 2) false).run Tryz.prog W5 = .ok (.func (.func 51) #[] #[.pointer (some ⟨B, 0, none⟩)]) W5 := OwnI.look hMx Tryz.underlying70 (zero_maker W5) (by decide) rfl
          have HO := hide (maker2_any X (.pointer pp) 2 nm v d a b Ao i co B W5 hbX hAx hnm)
          have e : oneC X root ⟨2, nm, v, d, a, b⟩ o = releasedC X nm := by unfold oneC; rw [if_neg (show ¬ (2 : Int) = 1 by decide), if_pos rfl]
          rw [← e] at HO
          clear e
          unfold MakesR at HO
          generalize oneC X root ⟨2, nm, v, d, a, b⟩ o = R at *
          have hFc5 := hFc.below hA5
          have hfr5 := hfr.on hA5
          have hb5s := hb5.size
          clear hMx hbX hbN hAx hNd bS hmi hfo hkk hnm hd hFc hfr HK
          cases R with
          | none =>
            have e : Hid (o = F) := hide hst.symm
            clear hst Hi1
            go_upto_region 8 with fail
            try rw [← hW5]
            clear hW5 p0 p1 p2 p3 p4 p5
            go_wp2_with (first
              | (go_at_call 51
                 refine HO.out.mono ?_
                 rintro e6 w6 ⟨A6, n6, c6, rfl, h6, hb6⟩
                 have hfr6 := hfr5.on hb6
                 have hb6w := hb5.trans (hb6.mono hb5s)))
            go_ret2
            exact ⟨_, _, _, rfl, hco, by rw [← e.out]; exact hfr6.fc, hbw2.trans (hb6w.mono hbw2.size)⟩
          | some cc =>
            have e : Hid (clashC X root (l.drop (i + 1)) (o ++ [cc]) = F) := hide hst.symm
            have Hin2 : Hid (∀ d ∈ o ++ [cc], InvC (prsS X root l) (nmsS X root l) d) := hide (fun d hd => by
              rcases List.mem_append.1 hd with hd | hd
              · exact HInv.out d hd
              · rw [List.mem_singleton.1 hd]; exact Hi1.out cc rfl)
            clear hst Hi1
            go_upto_region 8 with fail
            try rw [← hW5]
            clear hW5 p0 p1 p2 p3 p4 p5
            go_wp2_with (first
              | (go_at_call 51
                 refine HO.out.mono ?_
                 rintro e6 w6 ⟨A1, n1, c1, rfl, h6, hb6⟩
                 have hFc6 := hFc5.below hb6
                 have hb6w := hb5.trans (hb6.mono hb5s)
                 have hb6s := hb6w.size)
              | (at_builtin
                 refine wpList_append_any _ rfl (.tmp 38) (.tmp 40) _ rfl w2.heap.size 41 i0 _ 1 24 Tryz.underlying37 hi0 hz0 hz1 hz2 rfl (by omega) _ i vs rfl
                   (own_below hFc6.1 (Proof.alloc_b _ _)) _ _ 1 _ _ rfl (Reads.new1 _ _ _) (one_sliceJ _ _ _) (by unfold maxLen; omega) (by omega) (by simp; omega) ?_
                 intro v3 w3 hown3 hg3 hat3
                 have hA3 := Proof.alloc_b w6 (.cells #[.slice A1 n1 c1] 41)
                 have hF3 := (hFc6.below hA3).cat (AllF.one (k := c1) (h6.on hA3)) hown3 hg3
                 have hb3 : Below w2.heap.size w2 w3 := (hb6w.trans (hA3.mono hb6s)).grown hg3 (by simp; omega) (fun kb hkb => (hFc6.1.lt kb hkb).1)))
            go_roundw
            case rel => exact ⟨i + 1, _, _, by omega, by go_num, hF3, e, Hin2, hb3⟩
            case measure => simp [RowKit.intOf]; omega
        by_cases k3 : k = 3
        · subst k3
          obtain ⟨W5, hW5⟩ : ∃ W, W = wr.alloc (.cells #[.int .i64 3, .string nm, .int .i64 v, .string d, .int .i64 a, .int .i64 b] 53) := ⟨_, rfl⟩
          have hA5 : Below wr.heap.size wr W5 := by rw [hW5]; exact Proof.alloc_b _ _
          have bS : Blk W5 wr.heap.size 53 #[.int .i64 3, .string nm, .int .i64 v, .string d, .int .i64 a, .int .i64 b] := by rw [hW5]; exact Blk.new _ _ _
          have hb5 := hb.trans (hA5.mono hbs)
          obtain ⟨hAx, hNd, hMx, hbX, hbN⟩ := HK.out W5 hb5
          have c0 := (bS.cell 0).trans (show (#[Value.int .i64 3, .string nm, .int .i64 v, .string d, .int .i64 a, .int .i64 b] : Array Value)[0]? = some (.int .i64 3) from rfl)
          have c1 := (bS.cell 1).trans (show (#[Value.int .i64 3, .string nm, .int .i64 v, .string d, .int .i64 a, .int .i64 b] : Array Value)[1]? = some (.string nm) from rfl)
          have c2 := (bS.cell 2).trans (show (#[Value.int .i64 3, .string nm, .int .i64 v, .string d, .int .i64 a, .int .i64 b] : Array Value)[2]? = some (.int .i64 v) from rfl)
          have c3 := (bS.cell 3).trans (show (#[Value.int .i64 3, .string nm, .int .i64 v, .string d, .int .i64 a, .int .i64 b] : Array Value)[3]? = some (.string d) from rfl)
          have c4 := (bS.cell 4).trans (show (#[Value.int .i64 3, .string nm, .int .i64 v, .string d, .int .i64 a, .int .i64 b] : Array Value)[4]? = some (.int .i64 a) from rfl)
          have c5 := (bS.cell 5).trans (show (#[Value.int .i64 3, .string nm, .int .i64 v, .string d, .int .i64 a, .int .i64 b] : Array Value)[5]? = some (.int .i64 b) from rfl)
          have hlk : (Instr.lookup 70 (.map (some g)) (.int .i64 3) false).run Tryz.prog W5 = .ok (.func (.func 53) #[] #[.pointer (some ⟨B, 0, none⟩)]) W5 := OwnI.look hMx Tryz.underlying70 (zero_maker W5) (by decide) rfl
          have HO := hide (maker3_any X (.pointer pp) 3 nm v d a b Ao i co B W5 hbX hAx hnm hd)
          have e : oneC X root ⟨3, nm, v, d, a, b⟩ o = neededC X nm v d := by unfold oneC; rw [if_neg (show ¬ (3 : Int) = 1 by decide), if_neg (show ¬ (3 : Int) = 2 by decide), if_pos rfl]
          rw [← e] at HO
          clear e
          unfold MakesR at HO
          generalize oneC X root ⟨3, nm, v, d, a, b⟩ o = R at *
          have hFc5 := hFc.below hA5
          have hfr5 := hfr.on hA5
          have hb5s := hb5.size
          clear hMx hbX hbN hAx hNd bS hmi hfo hkk hnm hd hFc hfr HK
          cases R with
          | none =>
            have e : Hid (o = F) := hide hst.symm
            clear hst Hi1
            go_upto_region 8 with fail
            try rw [← hW5]
            clear hW5 p0 p1 p2 p3 p4 p5
            go_wp2_with (first
              | (go_at_call 53
                 refine HO.out.mono ?_
                 rintro e6 w6 ⟨A6, n6, c6, rfl, h6, hb6⟩
                 have hfr6 := hfr5.on hb6
                 have hb6w := hb5.trans (hb6.mono hb5s)))
            go_ret2
            exact ⟨_, _, _, rfl, hco, by rw [← e.out]; exact hfr6.fc, hbw2.trans (hb6w.mono hbw2.size)⟩
          | some cc =>
            have e : Hid (clashC X root (l.drop (i + 1)) (o ++ [cc]) = F) := hide hst.symm
            have Hin2 : Hid (∀ d ∈ o ++ [cc], InvC (prsS X root l) (nmsS X root l) d) := hide (fun d hd => by
              rcases List.mem_append.1 hd with hd | hd
              · exact HInv.out d hd
              · rw [List.mem_singleton.1 hd]; exact Hi1.out cc rfl)
            clear hst Hi1
            go_upto_region 8 with fail
            try rw [← hW5]
            clear hW5 p0 p1 p2 p3 p4 p5
            go_wp2_with (first
              | (go_at_call 53
                 refine HO.out.mono ?_
                 rintro e6 w6 ⟨A1, n1, c1, rfl, h6, hb6⟩
                 have hFc6 := hFc5.below hb6
                 have hb6w := hb5.trans (hb6.mono hb5s)
                 have hb6s := hb6w.size)
              | (at_builtin
                 refine wpList_append_any _ rfl (.tmp 38) (.tmp 40) _ rfl w2.heap.size 41 i0 _ 1 24 Tryz.underlying37 hi0 hz0 hz1 hz2 rfl (by omega) _ i vs rfl
                   (own_below hFc6.1 (Proof.alloc_b _ _)) _ _ 1 _ _ rfl (Reads.new1 _ _ _) (one_sliceJ _ _ _) (by unfold maxLen; omega) (by omega) (by simp; omega) ?_
                 intro v3 w3 hown3 hg3 hat3
                 have hA3 := Proof.alloc_b w6 (.cells #[.slice A1 n1 c1] 41)
                 have hF3 := (hFc6.below hA3).cat (AllF.one (k := c1) (h6.on hA3)) hown3 hg3
                 have hb3 : Below w2.heap.size w2 w3 := (hb6w.trans (hA3.mono hb6s)).grown hg3 (by simp; omega) (fun kb hkb => (hFc6.1.lt kb hkb).1)))
            go_roundw
            case rel => exact ⟨i + 1, _, _, by omega, by go_num, hF3, e, Hin2, hb3⟩
            case measure => simp [RowKit.intOf]; omega
        have k4 : k = 4 := by omega
        subst k4
        clear k1 k2 k3
        obtain ⟨ha0, ha1, hb0, hb1⟩ := may_joined hmi rfl
        simp only [] at ha0 ha1 hb0 hb1
        obtain ⟨ia, rfl⟩ : ∃ ia : Nat, a = (ia : Int) := ⟨a.toNat, by omega⟩
        obtain ⟨ib, rfl⟩ : ∃ ib : Nat, b = (ib : Int) := ⟨b.toNat, by omega⟩
        obtain ⟨W5, hW5⟩ : ∃ W, W = wr.alloc (.cells #[.int .i64 4, .string nm, .int .i64 v, .string d, .int .i64 (ia : Int), .int .i64 (ib : Int)] 53) := ⟨_, rfl⟩
        have hA5 : Below wr.heap.size wr W5 := by rw [hW5]; exact Proof.alloc_b _ _
        have bS : Blk W5 wr.heap.size 53 #[.int .i64 4, .string nm, .int .i64 v, .string d, .int .i64 (ia : Int), .int .i64 (ib : Int)] := by rw [hW5]; exact Blk.new _ _ _
        have hb5 := hb.trans (hA5.mono hbs)
        obtain ⟨hAx, hNd, hMx, hbX, hbN⟩ := HK.out W5 hb5
        have c0 := (bS.cell 0).trans (show (#[Value.int .i64 4, .string nm, .int .i64 v, .string d, .int .i64 (ia : Int), .int .i64 (ib : Int)] : Array Value)[0]? = some (.int .i64 4) from rfl)
        have c1 := (bS.cell 1).trans (show (#[Value.int .i64 4, .string nm, .int .i64 v, .string d, .int .i64 (ia : Int), .int .i64 (ib : Int)] : Array Value)[1]? = some (.string nm) from rfl)
        have c2 := (bS.cell 2).trans (show (#[Value.int .i64 4, .string nm, .int .i64 v, .string d, .int .i64 (ia : Int), .int .i64 (ib : Int)] : Array Value)[2]? = some (.int .i64 v) from rfl)
        have c3 := (bS.cell 3).trans (show (#[Value.int .i64 4, .string nm, .int .i64 v, .string d, .int .i64 (ia : Int), .int .i64 (ib : Int)] : Array Value)[3]? = some (.string d) from rfl)
        have c4 := (bS.cell 4).trans (show (#[Value.int .i64 4, .string nm, .int .i64 v, .string d, .int .i64 (ia : Int), .int .i64 (ib : Int)] : Array Value)[4]? = some (.int .i64 (ia : Int)) from rfl)
        have c5 := (bS.cell 5).trans (show (#[Value.int .i64 4, .string nm, .int .i64 v, .string d, .int .i64 (ia : Int), .int .i64 (ib : Int)] : Array Value)[5]? = some (.int .i64 (ib : Int)) from rfl)
        have hlk : (Instr.lookup 70 (.map (some g)) (.int .i64 4) false).run Tryz.prog W5 = .ok (.func (.func 55) #[] #[]) W5 := OwnI.look hMx Tryz.underlying70 (zero_maker W5) (by decide) rfl
        have HO := hide (maker4_any X root nm v d ia ib o Ao i co W5 (hfr.on hA5) (by omega) (by omega) (by omega) hfo hnm)
        unfold MakesR at HO
        generalize oneC X root ⟨4, nm, v, d, ia, ib⟩ o = R at *
        have hFc5 := hFc.below hA5
        have hfr5 := hfr.on hA5
        have hb5s := hb5.size
        clear hMx hbX hbN hAx hNd bS hmi hfo hkk hnm hd hFc hfr HK ha0 ha1 hb0 hb1
        cases R with
        | none =>
          have e : Hid (o = F) := hide hst.symm
          clear hst Hi1
          go_upto_region 8 with fail
          try rw [← hW5]
          clear hW5 p0 p1 p2 p3 p4 p5
          go_wp2_with (first
            | (go_at_call 55
               refine HO.out.mono ?_
               rintro e6 w6 ⟨A6, n6, c6, rfl, h6, hb6⟩
               have hfr6 := hfr5.on hb6
               have hb6w := hb5.trans (hb6.mono hb5s)))
          go_ret2
          exact ⟨_, _, _, rfl, hco, by rw [← e.out]; exact hfr6.fc, hbw2.trans (hb6w.mono hbw2.size)⟩
        | some cc =>
          have e : Hid (clashC X root (l.drop (i + 1)) (o ++ [cc]) = F) := hide hst.symm
          have Hin2 : Hid (∀ d ∈ o ++ [cc], InvC (prsS X root l) (nmsS X root l) d) := hide (fun d hd => by
            rcases List.mem_append.1 hd with hd | hd
            · exact HInv.out d hd
            · rw [List.mem_singleton.1 hd]; exact Hi1.out cc rfl)
          clear hst Hi1
          go_upto_region 8 with fail
          try rw [← hW5]
          clear hW5 p0 p1 p2 p3 p4 p5
          go_wp2_with (first
            | (go_at_call 55
               refine HO.out.mono ?_
               rintro e6 w6 ⟨A1, n1, c1, rfl, h6, hb6⟩
               have hFc6 := hFc5.below hb6
               have hb6w := hb5.trans (hb6.mono hb5s)
               have hb6s := hb6w.size)
            | (at_builtin
               refine wpList_append_any _ rfl (.tmp 38) (.tmp 40) _ rfl w2.heap.size 41 i0 _ 1 24 Tryz.underlying37 hi0 hz0 hz1 hz2 rfl (by omega) _ i vs rfl
                 (own_below hFc6.1 (Proof.alloc_b _ _)) _ _ 1 _ _ rfl (Reads.new1 _ _ _) (one_sliceJ _ _ _) (by unfold maxLen; omega) (by omega) (by simp; omega) ?_
               intro v3 w3 hown3 hg3 hat3
               have hA3 := Proof.alloc_b w6 (.cells #[.slice A1 n1 c1] 41)
               have hF3 := (hFc6.below hA3).cat (AllF.one (k := c1) (h6.on hA3)) hown3 hg3
               have hb3 : Below w2.heap.size w2 w3 := (hb6w.trans (hA3.mono hb6s)).grown hg3 (by simp; omega) (fun kb hkb => (hFc6.1.lt kb hkb).1)))
          go_roundw
          case rel => exact ⟨i + 1, _, _, by omega, by go_num, hF3, e, Hin2, hb3⟩
          case measure => simp [RowKit.intOf]; omega
      · have hi2 : i = n := by omega
        have e : Hid (o = F) := hide (by rw [← hff.out, hi2, Hend.out])
        clear HP Hstep Hmay Hone Hfew Hnames HK hff hinv hi2
        go_wp2
        go_ret2
        exact ⟨_, _, _, rfl, hco, by rw [← e.out]; exact hfr.fc, hbw2.trans (hb.mono hbw2.size)⟩
theorem specClashesJ : SpecClashesJ := by
  intro X root l pv Ar A nr cr n c w hA h8 hr hnr hok h hc ho hn
  have := clashesJ_any X root l pv Ar A nr cr n c w hA h8 hr hnr hok h (step_names ho) hn
  unfold madeC at this
  rw [if_pos ho] at this
  exact this
theorem lastC_get {X : List Kn} {root : List Nd} {l : List Sp} {m : Nat} {c : List Tm} (ho : okPf l = true) (hm : m + 1 = l.length) (hc : (madeC X root l)[m]? = some c) (hf : (madeC X root l).length = l.length) : lastC X root l = c := by
  unfold madeC at hc hf
  rw [if_pos ho] at hc hf
  unfold lastC
  rw [if_pos hf, show l.length - 1 = m by omega, hc]
  rfl
def LastsJ (r : Bool) (cc : List Tm) (w : World) (e : Ending) (w' : World) : Prop := ∃ A' n' c', e = .returned (.tuple #[.slice A' n' c', .bool r]) ∧ TmOn w' A' n' (if r = true then cc else []) ∧ Below w.heap.size w w'
set_option maxHeartbeats 4000000 in
set_option maxRecDepth 100000 in
theorem lastJ_any (X : List Kn) (root : List Nd) (l : List Sp) (pv : Value) (Ar A : Option Addr) (nr cr n c : Nat) (w : World) (hA : AskX X pv w) (h8 : EightX X) (hr : NdOn w Ar nr root) (hnr : nr ≤ 40) (hok : okS root = true) (h : PfOn w A n l) (hl : NamesJ l) (hn : n ≤ 120) :
    Calls Tryz.prog 17 #[pv, .slice Ar nr cr, .slice A n c] w (LastsJ (okPf l && decide ((clashC X root l []).length = l.length)) (lastC X root l) w) := by
  have HC := hide (clashesJ_any X root l pv Ar A nr cr n c w hA h8 hr hnr hok h hl hn)
  obtain ⟨pp, rfl⟩ : ∃ o, pv = .pointer o := hA.1
  have hlen := h.len
  have hml := made_len X root l
  have Hget := hide (fun (ho : okPf l = true) (m : Nat) (c : List Tm) (hm : m + 1 = l.length) (hc : (madeC X root l)[m]? = some c) (hf : (madeC X root l).length = l.length) => lastC_get ho hm hc hf)
  obtain ⟨r, hres⟩ : ∃ r, r = (okPf l && decide ((clashC X root l []).length = l.length)) := ⟨_, rfl⟩
  have Hr : Hid (r = true ↔ (okPf l = true ∧ (madeC X root l).length = l.length)) := hide (by
    rw [hres, Bool.and_eq_true, decide_eq_true_eq]
    constructor
    · rintro ⟨h1, h2⟩; exact ⟨h1, by unfold madeC; rw [if_pos h1]; exact h2⟩
    · rintro ⟨h1, h2⟩; unfold madeC at h2; rw [if_pos h1] at h2; exact ⟨h1, h2⟩)
  have Hpos : Hid (okPf l = true → 1 ≤ l.length) := hide (fun ho => (okPf_steps ho).2.2)
  have Hnil : Hid (1 ≤ (madeC X root l).length → okPf l = true) := hide (fun hh => by
    unfold madeC at hh
    split at hh
    · assumption
    · simp at hh)
  rw [← hres]
  generalize madeC X root l = L at *
  clear hres hA h8 hr hok h hl
  go_enter Tryz.func17, Tryz.ntmps17
  go_upto_region 2 with (first
    | (go_at_call 15
       refine HC.out.mono ?_
       rintro e w2 ⟨A2, n2, c2, rfl, hc2, h2, hb2⟩))
  have hL := FcIn.len h2
  by_cases g0 : n2 = 0
  · have gg : ((n2 : Int) == 0) = true := by rw [g0]; rfl
    have E : Hid (r = false) := hide (by
      cases hr : r with
      | false => rfl
      | true => have := Hr.out.1 hr; have := Hpos.out this.1; omega)
    clear h2 hL g0 hml
    go_wp2
    go_ret2
    exact ⟨none, 0, 0, by rw [E.out]; rfl, by rw [E.out]; exact TmIn.nil _ _ _, hb2⟩
  · have gg : ((n2 : Int) == 0) = false := beq_eq_false_iff_ne.2 (by omega)
    by_cases g1 : n2 < n
    · have g2 : (n2 : Int) < (n : Int) := by omega
      have E : Hid (r = false) := hide (by
        cases hr : r with
        | false => rfl
        | true => have := Hr.out.1 hr; omega)
      clear h2 hL g0 hml g1
      go_wp2
      go_ret2
      exact ⟨none, 0, 0, by rw [E.out]; rfl, by rw [E.out]; exact TmIn.nil _ _ _, hb2⟩
    · have g2 : ¬ (n2 : Int) < (n : Int) := by omega
      have hnn : n2 = n := by omega
      obtain ⟨m, hm⟩ : ∃ m, m = n2 - 1 := ⟨_, rfl⟩
      have hmn : m < n2 := by omega
      obtain ⟨ad, cc, A3, n3, c3, rfl, hbl, hx, ht, q⟩ := FcIn.at_ h2 hmn
      have hokl := Hnil.out (by omega)
      have E : Hid (r = true) := hide (Hr.out.2 ⟨hokl, by omega⟩)
      have EL : Hid (lastC X root l = cc) := hide (Hget.out hokl m cc (by omega) hx (by omega))
      have w0 : IntKind.i64.wrap ((n2 : Int) - 1) = (m : Int) := by rw [IntKind.wrap_i64]; omega
      have hm1 : (0 : Int) ≤ (m : Int) := by omega
      have hm2 : (m : Int) < (n2 : Int) := by omega
      clear h2 hL g0 hml g1 hm hx hnn hokl hmn
      go_wp2
      go_ret2
      exact ⟨A3, n3, c3, by rw [E.out]; rfl, by rw [E.out, if_pos rfl, EL.out]; exact ht, hb2⟩
theorem specLastJ : SpecLastJ := by
  intro X root l pv Ar A nr cr n c w hA h8 hr hnr hok h hc ho hn
  refine (lastJ_any X root l pv Ar A nr cr n c w hA h8 hr hnr hok h (step_names ho) hn).mono ?_
  rintro e w' ⟨A', n', c', rfl, ht, hb⟩
  rw [ho, Bool.true_and] at ht ⊢
  refine ⟨A', n', c', rfl, ?_, hb⟩
  by_cases g : (clashC X root l []).length = l.length
  · rw [if_pos (decide_eq_true g)] at ht; exact ht
  · rw [if_neg (by rw [decide_eq_false g]; simp)] at ht
    unfold lastC
    rw [if_neg g]; exact ht
theorem accept_last (X : List Kn) (root : List Nd) (l : List Sp) : acceptB X root l = ((okPf l && decide ((clashC X root l []).length = l.length)) && decide (lastC X root l = [])) := by
  unfold acceptB
  cases ho : okPf l with
  | false => rfl
  | true =>
    have h1 := (okPf_steps ho).2.2
    rw [Bool.true_and, Bool.true_and]
    by_cases g : (clashC X root l []).length = l.length
    · rw [decide_eq_true g, Bool.true_and, Bool.true_and]
      unfold lastC
      rw [if_pos g]
      obtain ⟨x, hx⟩ : ∃ x, (clashC X root l [])[l.length - 1]? = some x := ⟨(clashC X root l [])[l.length - 1]'(by omega), by simp⟩
      rw [hx]
      simp
    · rw [decide_eq_false g, Bool.false_and, Bool.false_and]
set_option maxHeartbeats 4000000 in
set_option maxRecDepth 100000 in
theorem specAcceptJ : SpecAcceptJ := by
  intro X root l pv Ar A nr cr n c w hA h8 hr hnr hok h hc hl hn
  have HL := hide (lastJ_any X root l pv Ar A nr cr n c w hA h8 hr hnr hok h hl hn)
  obtain ⟨pp, rfl⟩ : ∃ o, pv = .pointer o := hA.1
  rw [accept_last]
  generalize (okPf l && decide ((clashC X root l []).length = l.length)) = r at *
  generalize lastC X root l = cc at *
  obtain ⟨z, hz⟩ : ∃ z, z = decide (cc = []) := ⟨_, rfl⟩
  rw [← hz]
  have Hz := hide hz
  clear hA h8 hr hok h hl hz
  go_enter Tryz.func12, Tryz.ntmps12
  go_upto_region 2 with (first
    | (go_at_call 17
       refine HL.out.mono ?_
       rintro e w2 ⟨A2, n2, c2, rfl, h2, hb2⟩))
  cases r with
  | false =>
    clear h2
    go_wp2
    go_ret
    exact ⟨rfl, hb2⟩
  | true =>
    rw [if_pos rfl] at h2
    have hl2 := h2.len
    clear HL
    by_cases g : n2 = 0
    · have hcc : cc = [] := List.eq_nil_of_length_eq_zero (by omega)
      have gg : ((n2 : Int) == 0) = true := by rw [g]; rfl
      have Z : Hid (z = true) := hide (Hz.out.trans (decide_eq_true hcc))
      clear h2 hl2 hcc g Hz
      go_wp2
      go_ret
      exact ⟨by rw [Z.out]; rfl, hb2⟩
    · have hcc : ¬ cc = [] := fun e => by rw [e] at hl2; exact g hl2.symm
      have gg : ((n2 : Int) == 0) = false := beq_eq_false_iff_ne.2 (by omega)
      have Z : Hid (z = false) := hide (Hz.out.trans (decide_eq_false hcc))
      clear h2 hl2 hcc g Hz
      go_wp2
      go_ret
      exact ⟨by rw [Z.out]; rfl, hb2⟩
end Go.Proofs.YtdmejcfnolhplaaGreat.Judge
