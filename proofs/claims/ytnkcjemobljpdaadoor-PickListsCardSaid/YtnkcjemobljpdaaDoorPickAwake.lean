/-
  The chapter's examples (awake): they hold. Condition: the tables hold what the texts lay in them.
-/
import Derived.Test.YtnkcjemobljpdaaDoorPickRead
import Derived.Test.YtnkcjemobljpdaaDoorPickShow
namespace Go.Proofs.YtnkcjemobljpdaaDoor.Pick
open Go Go.RowKit Go.Lib Go.Proofs.YtnkcjemobljpdaaDoor.Need
open Go.Proofs.YtnkcjemobljpdaaDoor.Label (runes fitL runes_step runes_end rn wd)
open Go.Proofs.YtnkcjemobljpdaaDoor.Ver (txt pA pB pC)
set_option linter.unusedVariables false
def exA : Pk := (str [97], 1000000)
def exB : Pk := (str [98], 2001000)
theorem fit_ex (b : UInt8) (h : b = 97 ∨ b = 98) : fitL (runes (str [b]) 0) = true := by
  rcases h with rfl | rfl <;>
  · rw [runes_step _ _ (by decide), runes_end _ _ (by decide)]
    decide
theorem txt_a : txt 1000000 = [49, 46, 48, 46, 48] := by
  unfold txt
  rw [show pA 1000000 = 1 from rfl, show pB 1000000 = 0 from rfl, show pC 1000000 = 0 from rfl, decDigits_one (by omega), decDigits_one (by omega)]
  rfl
theorem txt_b : txt 2001000 = [50, 46, 49, 46, 48] := by
  unfold txt
  rw [show pA 2001000 = 2 from rfl, show pB 2001000 = 1 from rfl, show pC 2001000 = 0 from rfl, decDigits_one (by omega), decDigits_one (by omega), decDigits_one (by omega)]
  rfl
theorem ok_ex : okP [exA, exB] = true := by
  refine okP_iff.2 ⟨?_, ?_⟩
  · refine List.pairwise_cons.2 ⟨fun x hx => ?_, List.pairwise_singleton _ _⟩
    rw [List.mem_singleton.1 hx]
    show Op.bytesLess (str [97]).toList (str [98]).toList = true
    rw [str_toList, str_toList]
    decide
  · intro q hq
    rcases List.mem_cons.1 hq with rfl | hq
    · exact ⟨fit_ex 97 (.inl rfl), by decide⟩
    · rw [List.mem_singleton.1 hq]
      exact ⟨fit_ex 98 (.inr rfl), by decide⟩
theorem show_ex : showB [exA, exB] = [97, 32, 49, 46, 48, 46, 48, 44, 32, 98, 32, 50, 46, 49, 46, 48] := by
  have ha : pickB exA = 97 :: 32 :: txt 1000000 := rfl
  have hb : pickB exB = 98 :: 32 :: txt 2001000 := rfl
  rw [txt_a] at ha
  rw [txt_b] at hb
  show pickB exA ++ (44 :: 32 :: (pickB exB ++ [])) = _
  rw [ha, hb]
  rfl
theorem reads_two (w : World) (x y : ByteArray) (u v : Int) (g : Nat) (hg : g = w.heap.size) : Reads (w.alloc (.cells #[.string x, .int .i64 u, .string y, .int .i64 v] 24)) (g + 1) 2 (some ⟨g, 0, none⟩) 2 (pks [(x, u), (y, v)]) := by
  subst hg
  have h := Reads.newL w 24 #[.string x, .int .i64 u, .string y, .int .i64 v]
  exact ⟨rfl, fun _ => h.2 (by simp)⟩
set_option maxHeartbeats 2000000 in
set_option maxRecDepth 100000 in
theorem awakeP_any (w : World) (hT : TabsP w) :
    Calls Tryd.prog 6 #[] w fun e w' => e = .returned (.bool true) ∧ Below w.heap.size w w' := by
  have HR := hide (fun (wx : World) (hx : TabsP wx) => show Calls Tryd.prog 19 #[.string ⟨#[110, 111, 116, 104, 105, 110, 103]⟩] wx _ from readP_any [] wx rfl (by simp) hx)
  have HS := hide (fun (wx : World) (A : Option Addr) (c : Nat) (hx : PkOn wx A 2 [exA, exB]) (ht : TabsP wx) => showP_any [exA, exB] A 2 c wx hx ok_ex (by omega) ht)
  rw [show_ex] at HS
  have hq : ((str [97, 32, 49, 46, 48, 46, 48, 44, 32, 98, 32, 50, 46, 49, 46, 48]).toList == [97, 32, 49, 46, 48, 46, 48, 44, 32, 98, 32, 50, 46, 49, 46, 48]) = true := by rw [str_toList]; rfl
  generalize str [97, 32, 49, 46, 48, 46, 48, 44, 32, 98, 32, 50, 46, 49, 46, 48] = sx at *
  have hb0 : Below w.heap.size w (w.alloc (.cells #[.string ⟨#[97]⟩, .int .i64 1000000, .string ⟨#[98]⟩, .int .i64 2001000] 24)) := alloc_b _ _
  have hr0 : PkOn (w.alloc (.cells #[.string ⟨#[97]⟩, .int .i64 1000000, .string ⟨#[98]⟩, .int .i64 2001000] 24)) (some ⟨w.heap.size, 0, none⟩) 2 [exA, exB] := (reads_two w ⟨#[97]⟩ ⟨#[98]⟩ 1000000 2001000 _ rfl).more (by simp)
  go_enter Tryd.func6, Tryd.ntmps6
  go_wp2_with (first
    | (go_at_call 19
       refine (HR.out _ (hT.below hb0)).mono ?_
       rintro e w1 ⟨A1, n1, c1, rfl, hN1, hb1⟩
       have hb2 := hb0.trans (hb1.mono (by simp))
       have hr2 := hr0.on hb1
       have hn1 : n1 = 0 := hN1.1
       subst hn1)
    | (go_at_call 20
       refine (HS.out _ _ _ hr2 (hT.below hb2)).mono ?_
       rintro e w3 ⟨rfl, hb3⟩
       have hb4 := hb2.trans (hb3.mono hb2.size)))
  go_ret
  exact ⟨rfl, hb4⟩
end Go.Proofs.YtnkcjemobljpdaaDoor.Pick
