/-
  Some texts of this claim, one behind the other: TrailGet. What each proves, and its condition, stands at its head.
-/
import Derived.Test.YtllogmokadcfmaaGreatZB45
import Derived.Test.YtllogmokadcfmaaGreatZB31
import Derived.Test.YtllogmokadcfmaaGreatZB32
import Derived.Test.YtllogmokadcfmaaGreatZB29
/-
  The contracts of the program's New, Level, Len, find, known and copied: what is read off a trail. Condition: names of at most 1,000,000,000 bytes.
-/
namespace Go.Proofs.YtllogmokadcfmaaGreat.Trail
open Go Go.RowKit Go.Lib Go.Proofs.YtllogmokadcfmaaGreat.Span Go.Proofs.YtllogmokadcfmaaGreat.Need Go.Proofs.YtllogmokadcfmaaGreat.Mani Go.Proofs.YtllogmokadcfmaaGreat.Grow Go.Proofs.YtllogmokadcfmaaGreat.Term
open Go.Proofs.YtllogmokadcfmaaGreat.MapV (OwnTold keyed key_ofS)
set_option linter.unusedVariables false
theorem okL_new : OkL ⟨[], 0⟩ [] := ⟨BegOk.new, DecOk.nil, fun e he => by (cases he)⟩
set_option maxHeartbeats 2000000 in
set_option maxRecDepth 100000 in
theorem newTr_any (w : World) : Calls Tryz.prog 8 #[] w fun e w' => ∃ v, e = .returned v ∧ TrP w' w.heap.size v ⟨[], 0⟩ ∧ Below w.heap.size w w' := by
  go_enter Tryz.func8, Tryz.ntmps8
  go_wp2
  go_ret
  exact ⟨_, rfl, ⟨w.heap.size, _, _, none, [], rfl, Nat.le_refl _, Blk.new _ _ _, RowN.nil_ _ _, RowB.nil_ _ _, .inl ⟨rfl, rfl⟩, okL_new⟩, (Below.refl _ _).alloc (Nat.le_refl _) _⟩
section
variable {w : World} {B : Nat} {v : Value} {x : Tr} {l : List Ent} {bs : List Nat}
set_option maxHeartbeats 2000000 in
set_option maxRecDepth 100000 in
theorem levelTr_q (h : TrQ w B v l bs) : Calls Tryz.prog 10 #[v] w fun e w' => e = .returned (.int .i64 (bs.length : Int)) ∧ w = w' := by
  obtain ⟨g, ve, vb, mo, rfl, hB, h1, h2, h3, h4⟩ := h
  obtain ⟨A, c, rfl, hc, _⟩ := h3.form
  have k1 := (h1.cell 1).trans (show (#[ve, .slice A bs.length c, .map mo] : Array Value)[1]? = some (.slice A bs.length c) from rfl)
  clear h1 h2 h3 h4
  go_enter Tryz.func10, Tryz.ntmps10
  go_wp2
  go_ret
  exact ⟨rfl, rfl⟩
theorem levelTr_any (h : TrP w B v x) : Calls Tryz.prog 10 #[v] w fun e w' => e = .returned (.int .i64 (x.level : Int)) ∧ w = w' := by
  obtain ⟨bs, hq, h5⟩ := h.q
  rw [← h5.beg.len]
  exact levelTr_q hq
set_option maxHeartbeats 2000000 in
set_option maxRecDepth 100000 in
theorem lenTr_any (h : TrP w B v x) : Calls Tryz.prog 11 #[v] w fun e w' => e = .returned (.int .i64 (x.l.length : Int)) ∧ w = w' := by
  obtain ⟨g, ve, vb, mo, bs, rfl, hB, h1, h2, h3, h4, h5⟩ := h
  obtain ⟨A, c, rfl, hc, _⟩ := h2.form
  have k1 := (h1.cell 0).trans (show (#[.slice A x.l.length c, vb, .map mo] : Array Value)[0]? = some (.slice A x.l.length c) from rfl)
  clear h1 h2 h3 h4 h5
  go_enter Tryz.func11, Tryz.ntmps11
  go_wp2
  go_ret
  exact ⟨rfl, rfl⟩
set_option maxHeartbeats 2000000 in
set_option maxRecDepth 100000 in
theorem levelTr_nil (w : World) : Calls Tryz.prog 10 #[.pointer none] w fun e w' => e = .returned (.int .i64 0) ∧ w = w' := by
  go_enter Tryz.func10, Tryz.ntmps10
  go_wp2
  go_ret
  exact ⟨rfl, rfl⟩
set_option maxHeartbeats 2000000 in
set_option maxRecDepth 100000 in
theorem lenTr_nil (w : World) : Calls Tryz.prog 11 #[.pointer none] w fun e w' => e = .returned (.int .i64 0) ∧ w = w' := by
  go_enter Tryz.func11, Tryz.ntmps11
  go_wp2
  go_ret
  exact ⟨rfl, rfl⟩
set_option maxHeartbeats 2000000 in
set_option maxRecDepth 100000 in
theorem findTr_nil (nm : ByteArray) (w : World) : Calls Tryz.prog 55 #[.pointer none, .string nm] w fun e w' => e = .returned (.int .i64 0) ∧ w = w' := by
  go_enter Tryz.func55, Tryz.ntmps55
  go_wp2
  go_ret
  exact ⟨rfl, rfl⟩
theorem zero_int (w : World) : (zeroValue 3).run Tryz.prog w = .ok (.int .i64 0) w := by kernel_rfl
theorem lastV_get (l : List Ent) (nm : ByteArray) : (lastV l nm).getD (.int .i64 0) = .int .i64 (lastNo l nm : Int) := by
  have := last_nat l nm
  unfold lastV
  cases e : lastF l nm with
  | none => rw [e] at this; exact congrArg (Value.int .i64) this
  | some k => rw [e] at this; exact congrArg (Value.int .i64) this
theorem MapN.look {mo : Option Nat} {l : List Ent} (h : MapN w B mo l) {nm : ByteArray} (hs : nm.size ≤ maxLen) : (Instr.lookup 59 (.map mo) (.string nm) false).run Tryz.prog w = .ok (.int .i64 (lastNo l nm : Int)) w := by
  rcases h with ⟨rfl, rfl⟩ | ⟨b, n, rfl, hb, hn, hT⟩
  · exact Maps.look_nil false keyed Tryz.underlying59 (zero_int w) (key_ofS nm hs)
  · have := hT.look Tryz.underlying59 (zero_int w) hs
    rw [lastV_get] at this
    exact this
set_option maxHeartbeats 2000000 in
set_option maxRecDepth 100000 in
theorem findTr_q (nm : ByteArray) (h : TrQ w B v l bs) (hnm : nm.size ≤ 1000000000) :
    Calls Tryz.prog 55 #[v, .string nm] w fun e w' => e = .returned (.int .i64 (lastNo l nm : Int)) ∧ w = w' := by
  obtain ⟨g, ve, vb, mo, rfl, hB, h1, h2, h3, h4⟩ := h
  have k2 := (h1.cell 2).trans (show (#[ve, vb, .map mo] : Array Value)[2]? = some (.map mo) from rfl)
  have hrun := h4.look (nm := nm) (by unfold maxLen; omega)
  clear h1 h2 h3 h4
  go_enter Tryz.func55, Tryz.ntmps55
  go_wp2
  go_ret
  exact ⟨rfl, rfl⟩
theorem findTr_any (nm : ByteArray) (h : TrP w B v x) (hnm : nm.size ≤ 1000000000) :
    Calls Tryz.prog 55 #[v, .string nm] w fun e w' => e = .returned (.int .i64 (lastNo x.l nm : Int)) ∧ w = w' := by
  obtain ⟨bs, hq, h5⟩ := h.q
  exact findTr_q nm hq hnm
theorem all_newT (w : World) :
    Calls Tryz.prog 33 #[] w fun e w' => ∃ A n c, e = .returned (.slice A n c) ∧ NewS w' w.heap.size A n c allS ∧ Below w.heap.size w w' := by
  have hrd := hide (spIn_of_reads (reads_one w 0 1000000000 _ rfl))
  go_enter Tryz.func33, Tryz.ntmps33
  go_wp2
  go_ret
  exact ⟨some ⟨w.heap.size, 0, none⟩, 1, 1, rfl, ⟨rfl, Nat.le_refl _, ⟨rfl, .inr ⟨w.heap.size, 1, _, rfl, Nat.le_refl _, heap_alloc_new w _, Nat.le_refl _, by decide, rfl, rfl⟩⟩, (hrd.out).more (by simp)⟩, alloc_b _⟩
def TellsC (w : World) (t : Tm) (e : Ending) (w' : World) : Prop :=
  ∃ A n c, e = .returned (.agg #[.string t.name, .slice A n c, .bool t.none]) ∧ n ≤ c ∧ InS w' 0 A n t.set ∧ Below w.heap.size w w'
set_option maxHeartbeats 4000000 in
set_option maxRecDepth 100000 in
theorem knownTr_zero (v : Value) (nm : ByteArray) (w : World) : Calls Tryz.prog 57 #[v, .int .i64 0, .string nm] w (TellsC w ⟨nm, allS, true⟩) := by
  unfold TellsC
  have HA := hide (fun (wx : World) => all_newT wx)
  obtain ⟨W, hW⟩ : ∃ W, W = w.alloc (.cells #[.string ⟨#[]⟩, .slice none 0 0, .bool false] 38) := ⟨_, rfl⟩
  have hbW : Below w.heap.size w W := by rw [hW]; exact alloc_b _
  have bk : Blk W w.heap.size 38 #[.string ⟨#[]⟩, .slice none 0 0, .bool false] := by rw [hW]; exact Blk.new _ _ _
  generalize allS = L at *
  go_enter Tryz.func57, Tryz.ntmps57
  go_upto_region 1 with fail
  try rw [← hW]
  clear hW
  go_wp2_with (first
    | (go_at_call 33
       refine (HA.out _).mono ?_
       rintro e w1 ⟨A1, n1, c1, rfl, hN1, hb1⟩
       have br := bk.below hb1 bk.lt
       have hb := hbW.trans (hb1.mono hbW.size)
       have z0 := br.cell 0
       have z1 := br.cell 1
       have z2 := br.cell 2
       have f0 := br.frozen 0
       have f1 := br.frozen 1
       have f2 := br.frozen 2))
  have hblk := stored_row (u := .string nm) (v := .slice A1 n1 c1) (x := .bool true) br rfl
  have hgs : w1.grownBy (((w1.setCell ⟨w.heap.size, 0, none⟩ (.string nm)).setCell ⟨w.heap.size, 1, none⟩ (.slice A1 n1 c1)).setCell ⟨w.heap.size, 2, none⟩ (.bool true)) (some w.heap.size) := only_setCell (p := ⟨w.heap.size, 2, none⟩) (only_setCell (p := ⟨w.heap.size, 1, none⟩) (only_setCell (p := ⟨w.heap.size, 0, none⟩) (only_self w1 w.heap.size) (.inl rfl) _) (.inl rfl) _) (.inl rfl) _
  have hI : InS w1 0 A1 n1 L := InS.of_new hN1
  have hIr := insFar hI (farT_blk br (by decide)) hgs
  have hc := hN1.2.1
  refine bodyPost_ret (results_cell_row rfl _ _ w.heap.size 38 _ (0, 0) _ rfl hblk Tryz.underlying38 rfl rfl) rfl ?_
  exact ⟨A1, n1, c1, rfl, hc, hIr, three_b hb (by omega) _ _ _⟩
set_option maxHeartbeats 4000000 in
set_option maxRecDepth 100000 in
theorem knownTr_at {i : Nat} {q : Ent} (nm : ByteArray) (h : TrQ w B v l bs) (hq : l[i]? = some q) (hl : l.length ≤ 1000) : Calls Tryz.prog 57 #[v, .int .i64 ((i : Int) + 1), .string nm] w (TellsC w (knowL (l.take (i + 1)) q.term.name)) := by
  unfold TellsC
  obtain ⟨g, ve, vb, mo, rfl, hB, h1, h2, h3, h4⟩ := h
  obtain ⟨ge, ce, A, n, ca, A2, n2, ca2, rfl, hle, hBe, hge, _, hca, hca2, hs, hs2, c0, c1, c2, c3, c4, c5, c6, c7, c8⟩ := h2.at_ hq
  have hi := (List.getElem?_eq_some_iff.1 hq).1
  have hname := know_name (l.take (i + 1)) q.term.name
  have k0 := (h1.cell 0).trans (show (#[.slice (some ⟨ge, 0, none⟩) l.length ce, vb, .map mo] : Array Value)[0]? = some (.slice (some ⟨ge, 0, none⟩) l.length ce) from rfl)
  have hg := h1.lt
  generalize knowL (l.take (i + 1)) q.term.name = K at *
  obtain ⟨kn, ks, kz⟩ := K
  simp only [] at hname hs2 c8 ⊢
  subst hname
  clear h1 h2 h3 h4 hs c1 c2 c3 c4 c5
  obtain ⟨W, hW⟩ : ∃ W, W = w.alloc (.cells #[.string ⟨#[]⟩, .slice none 0 0, .bool false] 38) := ⟨_, rfl⟩
  have hbW : Below w.heap.size w W := by rw [hW]; exact alloc_b _
  have bk : Blk W w.heap.size 38 #[.string ⟨#[]⟩, .slice none 0 0, .bool false] := by rw [hW]; exact Blk.new _ _ _
  have e0 := (hbW.cell (show (⟨g, 0, none⟩ : Addr).block < _ from hg)).trans k0
  have e6 := (hbW.cell (show (⟨ge, i * 9 + 6, none⟩ : Addr).block < _ from hge)).trans c6
  have e7 := (hbW.cell (show (⟨ge, i * 9 + 7, none⟩ : Addr).block < _ from hge)).trans c7
  have e8 := (hbW.cell (show (⟨ge, i * 9 + 8, none⟩ : Addr).block < _ from hge)).trans c8
  have hIW := hs2.below hbW
  have z0 := bk.cell 0
  have z1 := bk.cell 1
  have z2 := bk.cell 2
  have f0 := bk.frozen 0
  have f1 := bk.frozen 1
  have f2 := bk.frozen 2
  have hn1 : (i : Int) + 1 - 1 = (i : Int) := by omega
  clear k0 c6 c7 c8 hs2
  go_enter Tryz.func57, Tryz.ntmps57
  go_upto_region 1 with fail
  try rw [← hW]
  clear hW
  go_wp2
  have hblk := stored_row (u := .string q.term.name) (v := .slice A2 n2 ca2) (x := .bool kz) bk rfl
  have hgs : W.grownBy (((W.setCell ⟨w.heap.size, 0, none⟩ (.string q.term.name)).setCell ⟨w.heap.size, 1, none⟩ (.slice A2 n2 ca2)).setCell ⟨w.heap.size, 2, none⟩ (.bool kz)) (some w.heap.size) := only_setCell (p := ⟨w.heap.size, 2, none⟩) (only_setCell (p := ⟨w.heap.size, 1, none⟩) (only_setCell (p := ⟨w.heap.size, 0, none⟩) (only_self W w.heap.size) (.inl rfl) _) (.inl rfl) _) (.inl rfl) _
  have hIr := insFar hIW (farT_blk bk (by decide)) hgs
  refine bodyPost_ret (results_cell_row rfl _ _ w.heap.size 38 _ (0, 0) _ rfl hblk Tryz.underlying38 rfl rfl) rfl ?_
  exact ⟨A2, n2, ca2, rfl, hca2, hIr, three_b hbW (by omega) _ _ _⟩
theorem knownTr_q {i : Nat} (nm : ByteArray) (h : TrQ w B v l bs) (hi : IsNo l i nm) (hl : l.length ≤ 1000) : Calls Tryz.prog 57 #[v, .int .i64 (i : Int), .string nm] w (TellsC w (knowL (l.take i) nm)) := by
  rcases i with _ | i
  · exact knownTr_zero v nm w
  · obtain ⟨q, hq, rfl⟩ := hi.2 i rfl
    exact knownTr_at q.term.name h hq hl
theorem knownTr_any {i : Nat} (nm : ByteArray) (h : TrP w B v x) (hi : IsNo x.l i nm) (hl : x.l.length ≤ 1000) : Calls Tryz.prog 57 #[v, .int .i64 (i : Int), .string nm] w (TellsC w (knowL (x.l.take i) nm)) := by
  obtain ⟨bs, hq, h5⟩ := h.q
  exact knownTr_q nm hq hi hl
end
end Go.Proofs.YtllogmokadcfmaaGreat.Trail
