/-
  Some texts of this claim, one behind the other: NeedRead. What each proves, and its condition, stands at its head.
-/
import Derived.Test.YtmcpdcfeappokaaGreatDoorZ32
import Derived.Test.YtmcpdcfeappokaaGreatDoorZ25
import Derived.Test.YtmcpdcfeappokaaGreatDoorZ12
import Derived.Test.YtmcpdcfeappokaaGreatDoorZ13
/-
  Contracts of blanks, readIn and read: what stands behind a name, what a piece is read as. Condition: a piece has at most 1,000,000 bytes; the tables hold what the texts lay in them.
-/
namespace Go.Proofs.YtmcpdcfeappokaaGreatDoor.Need
open Go Go.RowKit Go.Lib Go.Proofs.YtmcpdcfeappokaaGreatDoor.Span
open Go.Proofs.YtmcpdcfeappokaaGreatDoor.Ver (Tabs)
open Go.Proofs.YtmcpdcfeappokaaGreatDoor.Rule (told toldSet toldAt toldErr MakesL ReadL_any all_ins)
open Go.Proofs.YtmcpdcfeappokaaGreatDoor.Label (runes fitL)
set_option linter.unusedVariables false
theorem blanks_any (l : List UInt8) (w : World) (hl : l.length ≤ 1000000000) : Calls Tryz.prog 34 #[.string (str l)] w (Tells w (.bool (allB l))) := by
  have HT := hide (trim_any l w hl)
  have e : ((str (trimS l [32])).toList == ([] : List UInt8)) = allB l := by
    rw [str_toList, Bool.eq_iff_iff, beq_iff_eq]
    exact trim_nil l
  unfold Tells
  generalize allB l = b at *
  generalize str (trimS l [32]) = t at *
  go_enter Tryz.func34, Tryz.ntmps34
  go_wp2_with (go_at_call 48
               refine HT.out.mono ?_
               rintro e w1 ⟨rfl, hb⟩)
  go_ret
  exact ⟨by first | rfl | (rw [← e]; rfl), hb⟩
/-- What stands behind a name, as it is read. -/
noncomputable def readInL (r : List UInt8) : Rule.Told := if allB r = true then Rule.Told.ok [(0, 1000000000)] else told r
set_option maxHeartbeats 1000000 in
theorem readIn_any (r : List UInt8) (w : World) (hl : r.length ≤ 1000000000) (hT : Tabs w) : Calls Tryz.prog 52 #[.string (str r)] w (MakesL w (readInL r)) := by
  have HB := hide (blanks_any r w hl)
  have HR := hide (fun (wx : World) (hb : Below w.heap.size w wx) => ReadL_any r wx (by omega) (hT.below hb))
  unfold MakesL Tells at *
  unfold readInL
  clear hT
  cases hb : allB r with
  | true =>
    rw [hb] at HB
    rw [if_pos rfl]
    have e1 : toldAt (Rule.Told.ok [(0, 1000000000)]) = 0 := rfl
    have e2 : toldErr (Rule.Told.ok [(0, 1000000000)]) = 0 := rfl
    have e3 : toldSet (Rule.Told.ok [(0, 1000000000)]) = [(0, 1000000000)] := rfl
    rw [e1, e2, e3]
    clear HR hb e1 e2 e3
    go_enter Tryz.func52, Tryz.ntmps52
    go_wp2_with (first
      | (go_at_call 34
         refine HB.out.mono ?_
         rintro e w1 ⟨rfl, hb1⟩)
      | (go_at_call 53
         refine (all_ins w1).mono ?_
         rintro e w2 ⟨A2, n2, c2, rfl, h2, hb2⟩))
    go_ret3
    exact ⟨_, _, _, rfl, h2, hb1.trans (hb2.mono hb1.size)⟩
  | false =>
    rw [hb] at HB
    rw [if_neg (by simp)]
    generalize toldAt (told r) = p at *
    generalize toldErr (told r) = q at *
    generalize toldSet (told r) = L at *
    clear hb
    go_enter Tryz.func52, Tryz.ntmps52
    go_wp2_with (first
      | (go_at_call 34
         refine HB.out.mono ?_
         rintro e w1 ⟨rfl, hb1⟩)
      | (go_at_call 74
         refine (HR.out w1 hb1).mono ?_
         rintro e w2 ⟨A2, n2, c2, rfl, h2, hb2⟩))
    go_ret3
    exact ⟨_, _, _, rfl, h2, hb1.trans (hb2.mono hb1.size)⟩
/-- What a piece is read as. -/
inductive Rd where
  | ok : Nd → Rd
  | bad : Int → Int → Rd
def rdAt : Rd → Int
  | .ok _ => 0
  | .bad p _ => p
def rdErr : Rd → Int
  | .ok _ => 0
  | .bad _ e => e
def textOf (p : List UInt8) : List UInt8 := p.dropWhile fun b => b == 32
def nameL (p : List UInt8) : List UInt8 := cutF 32 (textOf p)
def headAt (p : List UInt8) : Int := (p.length : Int) - ((textOf p).length : Int)
noncomputable def readP (p : List UInt8) (a : ByteArray) : Rd :=
  if (fitL (runes (str (nameL p)) 0) && nlt a (str (nameL p))) = false then .bad (headAt p) 3
  else if toldErr (readInL ((textOf p).drop (nameL p).length)) = 0 then .ok (str (nameL p), toldSet (readInL ((textOf p).drop (nameL p).length)))
  else .bad (wrap64 (headAt p + ((nameL p).length : Int) + toldAt (readInL ((textOf p).drop (nameL p).length)))) (toldErr (readInL ((textOf p).drop (nameL p).length)))
def ReadsTo (w : World) (r : Rd) (e : Ending) (w' : World) : Prop :=
  ∃ nm A n c, e = .returned (.tuple #[.agg #[.string nm, .slice A n c], .int .i64 (rdAt r), .int .i64 (rdErr r)]) ∧ (∀ q, r = .ok q → nm = q.1 ∧ InS w' 0 A n q.2) ∧ Below w.heap.size w w'
theorem results_row_tmp2 {P : Program} {fn : Func} {p u v : Tmp} {ty : TypeId} (h : fn.results = #[.cell p ty, .tmp u, .tmp v]) (tmps : Array Value) (w : World) (g : Nat) (t : TypeId) (cs : Array Value) (fr : Nat × Nat) (d : TypeDesc) (x y : Value)
    (hp : tmps.getD p undef = .pointer (some ⟨g, 0, none⟩)) (hx : tmps.getD u undef = x) (hy : tmps.getD v undef = y) (hg : w.heap[g]? = some (.cells cs t fr))
    (hu : P.underlying ty = some d) (hd : (match d with | .struct _ | .array _ _ => true | _ => false) = true) (hi : (P.info? ty).map (·.size) = some cs.size) :
    (results fn tmps).run P w = .ok (.tuple #[.agg cs, x, y]) w := by
  have hp' : tmps[p]?.getD undef = .pointer (some ⟨g, 0, none⟩) := by simpa using hp
  have hx' : tmps[u]?.getD undef = x := by simpa using hx
  have hy' : tmps[v]?.getD undef = y := by simpa using hy
  simp [results, h, hp', hx', hy', asAddr, run_loadVar_row w g t ty cs fr d hg hu hd hi]
theorem ins_set {w1 : World} {g n : Nat} {cs : Array Value} {A : Option Addr} {l : List S} {u v : Value} (h : InS w1 0 A n l) (hb : Blk w1 g 33 cs) :
    InS ((w1.setCell ⟨g, 0, none⟩ u).setCell ⟨g, 1, none⟩ v) 0 A n l := by
  have key : ∀ ad, A = some ad → 0 < n → ad.block ≠ g := by
    intro ad hA hn e
    rcases h.2 ad hA hn with h1 | ⟨cur, m, h1⟩
    · omega
    · unfold Blk at hb
      rw [e, hb] at h1
      injection h1 with h1
      injection h1 with _ h1 _
      exact absurd h1 (by decide)
  refine ⟨⟨h.1.1, fun hn => ?_⟩, fun ad hA hn => ?_⟩
  · obtain ⟨ad, hA, hlt, hc⟩ := h.1.2 hn
    have hne := key ad hA hn
    refine ⟨ad, hA, by simpa [World.setCell] using hlt, fun i t ht => ?_⟩
    obtain ⟨c1, c2⟩ := hc i t ht
    constructor
    · rw [World.cell?_setCell_other _ _ _ _ (fun e => hne (by rw [← block_of_add ad (i * 2), ← e])), World.cell?_setCell_other _ _ _ _ (fun e => hne (by rw [← block_of_add ad (i * 2), ← e]))]
      exact c1
    · rw [World.cell?_setCell_other _ _ _ _ (fun e => hne (by rw [← block_of_add ad (i * 2)]; exact (congrArg Addr.block e).symm)), World.cell?_setCell_other _ _ _ _ (fun e => hne (by rw [← block_of_add ad (i * 2)]; exact (congrArg Addr.block e).symm))]
      exact c2
  · have hne := key ad hA hn
    rcases h.2 ad hA hn with h1 | ⟨cur, m, h1⟩
    · exact .inl h1
    · refine .inr ⟨cur, m, ?_⟩
      obtain ⟨ad', hA', hlt, _⟩ := h.1.2 hn
      rw [hA] at hA'
      injection hA' with hA'
      subst hA'
      rw [Below.heap_setCell _ _ _ _ (fun e => hne e), Below.heap_setCell _ _ _ _ (fun e => hne e)]
      exact h1
set_option maxHeartbeats 4000000 in
set_option maxRecDepth 100000 in
theorem readP_any (p : List UInt8) (a : ByteArray) (w : World) (hl : p.length ≤ 1000000) (hT : Tabs w) :
    Calls Tryz.prog 36 #[.string (str p), .string a] w (ReadsTo w (readP p a)) := by
  unfold ReadsTo readP headAt
  have htl : (textOf p).length ≤ p.length := (List.dropWhile_sublist _).length_le
  have hnl : (nameL p).length ≤ (textOf p).length := (List.takeWhile_sublist _).length_le
  have HL := hide (fun wx => trimLeft_any p wx)
  have HC := hide (fun wx => cut_any (textOf p) 32 wx (by omega))
  have HF := hide (fun wx => follows_any (str (nameL p)) a wx (by rw [str_size]; omega))
  have HI := hide (fun (wx : World) (hb : Below w.heap.size w wx) => readIn_any ((textOf p).drop (nameL p).length) wx (by rw [List.length_drop]; omega) (hT.below hb))
  have HK := hide (fun wx => Label.clone_any (str (nameL p)) wx (by rw [str_size]; omega))
  have hsl : ∀ wx : World, (Instr.slice 9 (.string (str (textOf p))) (some (.int .i64 ((nameL p).length : Int))) none none).run Tryz.prog wx = .ok (.string (str ((textOf p).drop (nameL p).length))) wx := fun wx => by
    rw [run_slice_string_l wx 9 (str (textOf p)) Tryz.underlying9 .i64 _ (by omega) (by rw [str_size]; omega), Int.toNat_natCast, str_extract_end]
  have z1 := str_size p
  have z2 := str_size (textOf p)
  have z3 := str_size (nameL p)
  have e1 : (List.dropWhile (fun b => b == 32) p) = textOf p := rfl
  have e2 : cutF 32 (textOf p) = nameL p := rfl
  rw [e1] at HL
  rw [e2] at HC
  unfold MakesL at HI
  clear hT e1 e2
  generalize readInL ((textOf p).drop (nameL p).length) = R at *
  generalize cutR 32 (textOf p) = cr at *
  generalize hasC 32 (textOf p) = ch at *
  generalize (fitL (runes (str (nameL p)) 0) && nlt a (str (nameL p))) = F at *
  generalize str ((textOf p).drop (nameL p).length) = sr at *
  generalize hT2 : textOf p = t at *
  generalize hN2 : nameL p = nm at *
  clear hT2 hN2
  generalize str t = st at *
  generalize str nm = sn at *
  generalize str p = sp at *
  generalize p.length = lp at *
  generalize t.length = lt at *
  generalize nm.length = ln at *
  cases F
  · rw [if_pos rfl]
    clear HI HK hsl
    go_enter Tryz.func36, Tryz.ntmps36
    go_wp2_with (first
      | (go_at_call 51
         refine (HL.out _).mono ?_
         rintro e w1 ⟨rfl, hb1⟩
         have hbw1 := (alloc_b (w := w) (.cells #[.string ⟨#[]⟩, .slice none 0 0] 33)).trans (hb1.mono (by simp))
         have hblk1 := (Blk.new w 33 #[.string ⟨#[]⟩, .slice none 0 0]).below hb1 (by simp))
      | (go_at_call 50
         refine (HC.out _).mono ?_
         rintro e w2 ⟨rfl, hb2⟩
         have hbw2 := hbw1.trans (hb2.mono hbw1.size)
         have hblk2 := hblk1.below hb2 hblk1.lt)
      | (go_at_call 20
         refine (HF.out _).mono ?_
         rintro e w3 ⟨rfl, hb3⟩
         have hbw3 := hbw2.trans (hb3.mono hbw2.size)
         have hblk3 := hblk2.below hb3 hblk2.lt
         have k0 := hblk3.cell 0
         have k1 := hblk3.cell 1
         have f0 := hblk3.frozen 0
         have f1 := hblk3.frozen 1))
    have hB : Blk ((w3.setCell ⟨w.heap.size, 0, none⟩ (.string ⟨#[]⟩)).setCell ⟨w.heap.size, 1, none⟩ (.slice none 0 0)) w.heap.size 33 #[.string ⟨#[]⟩, .slice none 0 0] := (hblk3.set_ 0 _).set_ 1 _
    refine bodyPost_ret (results_row_tmp2 rfl _ _ w.heap.size 33 _ (0, 0) _ _ _ rfl rfl rfl hB Tryz.underlying33 rfl rfl) rfl ?_
    refine ⟨⟨#[]⟩, none, 0, 0, by rfl, fun q hq => (by cases hq), (hbw3.setCell (Nat.le_refl _) _).setCell (Nat.le_refl _) _⟩
  · rw [if_neg (by simp)]
    by_cases he : toldErr R = 0
    · rw [if_pos he]
      rw [he] at HI
      generalize toldAt R = ta at *
      generalize toldSet R = L at *
      clear he
      go_enter Tryz.func36, Tryz.ntmps36
      go_wp2_with (first
        | (go_at_call 51
           refine (HL.out _).mono ?_
           rintro e w1 ⟨rfl, hb1⟩
           have hbw1 := (alloc_b (w := w) (.cells #[.string ⟨#[]⟩, .slice none 0 0] 33)).trans (hb1.mono (by simp))
           have hblk1 := (Blk.new w 33 #[.string ⟨#[]⟩, .slice none 0 0]).below hb1 (by simp))
        | (go_at_call 50
           refine (HC.out _).mono ?_
           rintro e w2 ⟨rfl, hb2⟩
           have hbw2 := hbw1.trans (hb2.mono hbw1.size)
           have hblk2 := hblk1.below hb2 hblk1.lt)
        | (go_at_call 20
           refine (HF.out _).mono ?_
           rintro e w3 ⟨rfl, hb3⟩
           have hbw3 := hbw2.trans (hb3.mono hbw2.size)
           have hblk3 := hblk2.below hb3 hblk2.lt)
        | (go_at_call 52
           refine (HI.out _ hbw3).mono ?_
           rintro e w4 ⟨A4, n4, c4, rfl, hI4, hb4⟩
           have hbw4 := hbw3.trans (hb4.mono hbw3.size)
           have hblk4 := hblk3.below hb4 hblk3.lt)
        | (go_at_call 39
           refine (HK.out _).mono ?_
           rintro e w5 ⟨rfl, hb5⟩
           have hI5 := hI4.below hb5
           have hbw5 := hbw4.trans (hb5.mono hbw4.size)
           have hblk5 := hblk4.below hb5 hblk4.lt
           have k0 := hblk5.cell 0
           have k1 := hblk5.cell 1
           have f0 := hblk5.frozen 0
           have f1 := hblk5.frozen 1))
      have hB : Blk ((w5.setCell ⟨w.heap.size, 0, none⟩ (.string sn)).setCell ⟨w.heap.size, 1, none⟩ (.slice A4 n4 c4)) w.heap.size 33 #[.string sn, .slice A4 n4 c4] := (hblk5.set_ 0 _).set_ 1 _
      refine bodyPost_ret (results_row_tmp2 rfl _ _ w.heap.size 33 _ (0, 0) _ _ _ rfl rfl rfl hB Tryz.underlying33 rfl rfl) rfl ?_
      refine ⟨sn, A4, n4, c4, by rfl, fun q hq => ?_, (hbw5.setCell (Nat.le_refl _) _).setCell (Nat.le_refl _) _⟩
      injection hq with hq
      subst hq
      exact ⟨rfl, ins_set hI5 hblk5⟩
    · rw [if_neg he]
      have hne : (toldErr R == 0) = false := beq_eq_false_iff_ne.2 he
      have hne2 : (toldErr R != 0) = true := by rw [bne, hne]; rfl
      generalize toldAt R = ta at *
      generalize toldErr R = te at *
      generalize toldSet R = L at *
      clear he HK
      go_enter Tryz.func36, Tryz.ntmps36
      go_wp2_with (first
        | (go_at_call 51
           refine (HL.out _).mono ?_
           rintro e w1 ⟨rfl, hb1⟩
           have hbw1 := (alloc_b (w := w) (.cells #[.string ⟨#[]⟩, .slice none 0 0] 33)).trans (hb1.mono (by simp))
           have hblk1 := (Blk.new w 33 #[.string ⟨#[]⟩, .slice none 0 0]).below hb1 (by simp))
        | (go_at_call 50
           refine (HC.out _).mono ?_
           rintro e w2 ⟨rfl, hb2⟩
           have hbw2 := hbw1.trans (hb2.mono hbw1.size)
           have hblk2 := hblk1.below hb2 hblk1.lt)
        | (go_at_call 20
           refine (HF.out _).mono ?_
           rintro e w3 ⟨rfl, hb3⟩
           have hbw3 := hbw2.trans (hb3.mono hbw2.size)
           have hblk3 := hblk2.below hb3 hblk2.lt)
        | (go_at_call 52
           refine (HI.out _ hbw3).mono ?_
           rintro e w4 ⟨A4, n4, c4, rfl, hI4, hb4⟩
           have hbw4 := hbw3.trans (hb4.mono hbw3.size)
           have hblk4 := hblk3.below hb4 hblk3.lt
           have k0 := hblk4.cell 0
           have k1 := hblk4.cell 1
           have f0 := hblk4.frozen 0
           have f1 := hblk4.frozen 1))
      have hB : Blk ((w4.setCell ⟨w.heap.size, 0, none⟩ (.string ⟨#[]⟩)).setCell ⟨w.heap.size, 1, none⟩ (.slice none 0 0)) w.heap.size 33 #[.string ⟨#[]⟩, .slice none 0 0] := (hblk4.set_ 0 _).set_ 1 _
      refine bodyPost_ret (results_row_tmp2 rfl _ _ w.heap.size 33 _ (0, 0) _ _ _ rfl rfl rfl hB Tryz.underlying33 rfl rfl) rfl ?_
      refine ⟨⟨#[]⟩, none, 0, 0, by rfl, fun q hq => (by cases hq), (hbw4.setCell (Nat.le_refl _) _).setCell (Nat.le_refl _) _⟩
end Go.Proofs.YtmcpdcfeappokaaGreatDoor.Need
