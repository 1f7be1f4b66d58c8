/-
  Some texts of this claim, one behind the other: NeedTrim. What each proves, and its condition, stands at its head.
-/
import Derived.Test.YtmcpdcfeappokaaGreatDoorZ24
import Derived.Shelf.Strings.Search2
import Derived.Test.YtmcpdcfeappokaaGreatDoorZ1
/-
  The library's own Trim, TrimLeft and Cut, laid at this program, at one letter. Condition: none beyond what a text's length may be.
-/
namespace Go.Proofs.YtmcpdcfeappokaaGreatDoor.Need
open Go Go.RowKit Go.Lib Go.Shelf
set_option linter.unusedVariables false
def renTr : Ren := ⟨fun | 119 => 105 | 120 => 95 | 137 => 104 | 151 => 83 | 152 => 94 | 160 => 48 | 197 => 82 | 217 => 96 | 224 => 98 | 225 => 97 | 227 => 68 | 228 => 81 | 231 => 66 | 232 => 67 | 233 => 69 | 234 => 70 | 235 => 71 | 236 => 72 | 260 => 93 | 266 => 106 | 271 => 84 | n => n, fun | 0 => 0 | 3 => 3 | 4 => 4 | 5 => 5 | 9 => 9 | 21 => 21 | 46 => 124 | 105 => 108 | 116 => 97 | 117 => 98 | 119 => 131 | 124 => 101 | 138 => 133 | 139 => 134 | n => n, fun | 3 => 2 | 4 => 3 | n => n⟩
theorem laysTr : Lays.n160 Tryz.prog renTr := {
  mixed := by kernel_rfl
  f119 := Tryz.func105.trans (congrArg some (by kernel_rfl))
  f120 := Tryz.func95.trans (congrArg some (by kernel_rfl))
  f137 := Tryz.func104.trans (congrArg some (by kernel_rfl))
  f151 := Tryz.func83.trans (congrArg some (by kernel_rfl))
  f152 := Tryz.func94.trans (congrArg some (by kernel_rfl))
  f160 := Tryz.func48.trans (congrArg some (by kernel_rfl))
  f197 := Tryz.func82.trans (congrArg some (by kernel_rfl))
  f217 := Tryz.func96.trans (congrArg some (by kernel_rfl))
  f224 := Tryz.func98.trans (congrArg some (by kernel_rfl))
  f225 := Tryz.func97.trans (congrArg some (by kernel_rfl))
  f227 := Tryz.func68.trans (congrArg some (by kernel_rfl))
  f228 := Tryz.func81.trans (congrArg some (by kernel_rfl))
  f231 := Tryz.func66.trans (congrArg some (by kernel_rfl))
  f232 := Tryz.func67.trans (congrArg some (by kernel_rfl))
  f233 := Tryz.func69.trans (congrArg some (by kernel_rfl))
  f234 := Tryz.func70.trans (congrArg some (by kernel_rfl))
  f235 := Tryz.func71.trans (congrArg some (by kernel_rfl))
  f236 := Tryz.func72.trans (congrArg some (by kernel_rfl))
  f260 := Tryz.func93.trans (congrArg some (by kernel_rfl))
  f266 := Tryz.func106.trans (congrArg some (by kernel_rfl))
  f271 := Tryz.func84.trans (congrArg some (by kernel_rfl))
  t0 := Tryz.underlying0
  a0 := Tryz.isAgg0
  z0 := Tryz.sizeOf0
  v0 := Tryz.zeroValue0
  t3 := Tryz.underlying3
  a3 := Tryz.isAgg3
  z3 := Tryz.sizeOf3
  v3 := Tryz.zeroValue3
  t4 := Tryz.underlying4
  a4 := Tryz.isAgg4
  z4 := Tryz.sizeOf4
  v4 := Tryz.zeroValue4
  t5 := Tryz.underlying5
  a5 := Tryz.isAgg5
  z5 := Tryz.sizeOf5
  v5 := Tryz.zeroValue5
  t9 := Tryz.underlying9
  a9 := Tryz.isAgg9
  z9 := Tryz.sizeOf9
  v9 := Tryz.zeroValue9
  t21 := Tryz.underlying21
  a21 := Tryz.isAgg21
  z21 := Tryz.sizeOf21
  v21 := Tryz.zeroValue21
  t46 := Tryz.underlying124
  a46 := Tryz.isAgg124
  z46 := Tryz.sizeOf124
  v46 := Tryz.zeroValue124
  t105 := Tryz.underlying108
  a105 := Tryz.isAgg108
  z105 := Tryz.sizeOf108
  v105 := Tryz.zeroValue108
  t116 := Tryz.underlying97
  a116 := Tryz.isAgg97
  z116 := Tryz.sizeOf97
  t117 := Tryz.underlying98
  a117 := Tryz.isAgg98
  z117 := Tryz.sizeOf98
  v117 := Tryz.zeroValue98
  t119 := Tryz.underlying131
  a119 := Tryz.isAgg131
  z119 := Tryz.sizeOf131
  t124 := Tryz.underlying101
  a124 := Tryz.isAgg101
  z124 := Tryz.sizeOf101
  v124 := Tryz.zeroValue101
  t138 := Tryz.underlying133
  a138 := Tryz.isAgg133
  z138 := Tryz.sizeOf133
  v138 := Tryz.zeroValue133
  t139 := Tryz.underlying134
  a139 := Tryz.isAgg134
  z139 := Tryz.sizeOf134
  v139 := Tryz.zeroValue134
  g3 := by kernel_rfl
  g4 := by kernel_rfl }
def renIx : Ren := ⟨fun | 217 => 96 | 219 => 85 | 224 => 98 | 225 => 97 | 266 => 106 | 267 => 99 | 314 => 107 | n => n, fun | 3 => 3 | 4 => 4 | 5 => 5 | 9 => 9 | 46 => 124 | 51 => 136 | 146 => 137 | n => n, fun | 1 => 0 | n => n⟩
theorem laysIx : Lays.n219 Tryz.prog renIx := {
  mixed := by kernel_rfl
  f217 := Tryz.func96.trans (congrArg some (by kernel_rfl))
  f219 := Tryz.func85.trans (congrArg some (by kernel_rfl))
  f224 := Tryz.func98.trans (congrArg some (by kernel_rfl))
  f225 := Tryz.func97.trans (congrArg some (by kernel_rfl))
  f266 := Tryz.func106.trans (congrArg some (by kernel_rfl))
  f267 := Tryz.func99.trans (congrArg some (by kernel_rfl))
  f314 := Tryz.func107.trans (congrArg some (by kernel_rfl))
  t3 := Tryz.underlying3
  a3 := Tryz.isAgg3
  z3 := Tryz.sizeOf3
  v3 := Tryz.zeroValue3
  t4 := Tryz.underlying4
  a4 := Tryz.isAgg4
  z4 := Tryz.sizeOf4
  v4 := Tryz.zeroValue4
  t5 := Tryz.underlying5
  a5 := Tryz.isAgg5
  z5 := Tryz.sizeOf5
  v5 := Tryz.zeroValue5
  t9 := Tryz.underlying9
  a9 := Tryz.isAgg9
  z9 := Tryz.sizeOf9
  v9 := Tryz.zeroValue9
  t46 := Tryz.underlying124
  a46 := Tryz.isAgg124
  z46 := Tryz.sizeOf124
  v46 := Tryz.zeroValue124
  t51 := Tryz.underlying136
  a51 := Tryz.isAgg136
  z51 := Tryz.sizeOf136
  v51 := Tryz.zeroValue136
  t146 := Tryz.underlying137
  a146 := Tryz.isAgg137
  z146 := Tryz.sizeOf137
  v146 := Tryz.zeroValue137
  g1 := by kernel_rfl }
theorem trimLeft_any (l : List UInt8) (w : World) :
    Calls Tryz.prog 51 #[.string (str l), .string ⟨#[32]⟩] w fun e w' => e = .returned (.string (str (l.dropWhile fun b => b == 32))) ∧ Below w.heap.size w w' := by
  refine (Any.strings_TrimLeft_laid Rule.laysT (by kernel_rfl) (str l) ⟨#[32]⟩ w (by decide) (ascii_of_all (by decide))).mono ?_
  rintro e w' ⟨rfl, hb⟩
  refine ⟨?_, hb⟩
  have h : trimLeftS (str l).data.toList (⟨#[32]⟩ : ByteArray).data.toList = l.dropWhile fun b => b == 32 := by
    unfold trimLeftS
    have e : (fun x => ([32] : List UInt8).contains x) = fun b => b == 32 := funext fun b => by rw [Bool.eq_iff_iff]; simp
    show List.dropWhile (fun x => ([32] : List UInt8).contains x) l = _
    rw [e]
  rw [h]
  rfl
theorem quiet_bb {w : World} (k : Nat) : Below w.heap.size w (w.drewN k) := below_drewN (Below.refl _ _) k
def allB (l : List UInt8) : Bool := l.all fun b => b == 32
theorem dropWhile_nil {p : UInt8 → Bool} (l : List UInt8) : l.dropWhile p = [] ↔ l.all p = true := by
  induction l with
  | nil => simp
  | cons x t ih =>
    rw [List.dropWhile_cons]
    cases h : p x <;> simp [h, ih]
theorem dropWhile_head {p : UInt8 → Bool} : ∀ (l : List UInt8), l.dropWhile p ≠ [] → (l.dropWhile p).all p = false := by
  intro l
  induction l with
  | nil => intro h; simp at h
  | cons x t ih =>
    rw [List.dropWhile_cons]
    cases h : p x
    · intro _; simp [h]
    · simpa using ih
theorem trim_nil (l : List UInt8) : (trimS l [32] = []) ↔ allB l = true := by
  have e : (fun x => ([32] : List UInt8).contains x) = fun b => b == 32 := funext fun b => by rw [Bool.eq_iff_iff]; simp
  unfold trimS trimRightS trimLeftS allB
  rw [e, dropWhile_nil, List.all_reverse, ← List.all_reverse (l := l)]
  by_cases h : l.reverse.dropWhile (fun b => b == 32) = []
  · rw [h]
    have := (dropWhile_nil l.reverse).1 h
    rw [this]
    simp
  · have h1 := dropWhile_head l.reverse h
    have h2 : ¬ (l.reverse.all fun b => b == 32) = true := fun g => h ((dropWhile_nil l.reverse).2 g)
    rw [h1]
    simp only [Bool.false_eq_true, false_iff]
    exact h2
/-- What stands ahead of a letter, what stands behind it. -/
def cutF (c : UInt8) (l : List UInt8) : List UInt8 := l.takeWhile fun b => b != c
def cutR (c : UInt8) (l : List UInt8) : List UInt8 := l.drop ((cutF c l).length + 1)
def hasC (c : UInt8) (l : List UInt8) : Bool := l.any fun b => b == c
theorem index_has {c : UInt8} : ∀ (l : List UInt8), hasC c l = true → indexByte l c = ((cutF c l).length : Int) ∧ (cutF c l).length < l.length ∧ l.take (cutF c l).length = cutF c l
  | [], h => by simp [hasC] at h
  | x :: t, h => by
    by_cases hx : x = c
    · subst hx
      simp [indexByte, cutF]
    · have ht : hasC c t = true := by simpa [hasC, hx] using h
      obtain ⟨h1, h2, h3⟩ := index_has t ht
      have e1 : cutF c (x :: t) = x :: cutF c t := by simp [cutF, hx]
      rw [e1]
      refine ⟨?_, by simp; omega, by simp [h3]⟩
      rw [indexByte, if_neg (by simpa using hx), h1, if_neg (by simp only [beq_iff_eq]; omega)]
      simp only [List.length_cons]
      omega
theorem index_lacks {c : UInt8} : ∀ (l : List UInt8), hasC c l = false → indexByte l c = -1 ∧ cutF c l = l ∧ cutR c l = []
  | [], _ => by simp [indexByte, cutF, cutR]
  | x :: t, h => by
    have hx : ¬ x = c := by simp [hasC] at h; exact h.1
    have ht : hasC c t = false := by simpa [hasC, hx] using h
    obtain ⟨h1, h2, h3⟩ := index_lacks t ht
    have e1 : cutF c (x :: t) = x :: cutF c t := by simp [cutF, hx]
    refine ⟨by rw [indexByte, if_neg (by simpa using hx), h1]; simp, by rw [e1, h2], ?_⟩
    unfold cutR
    rw [e1, h2]
    simp
theorem trim_any (l : List UInt8) (w : World) (hl : l.length ≤ 1000000000) :
    Calls Tryz.prog 48 #[.string (str l), .string ⟨#[32]⟩] w fun e w' => e = .returned (.string (str (trimS l [32]))) ∧ Below w.heap.size w w' := by
  refine (Any.strings_Trim_laid laysTr (by kernel_rfl) (str l) ⟨#[32]⟩ w (by rw [str_size]; omega) (by decide) (ascii_of_all (by decide))).mono ?_
  rintro e w' ⟨rfl, hb⟩
  exact ⟨rfl, hb⟩
theorem index_any (l : List UInt8) (c : UInt8) (w : World) :
    Calls Tryz.prog 85 #[.string (str l), .string ⟨#[c]⟩] w fun e w' => e = .returned (.int .i64 (indexByte l c)) ∧ w' = w :=
  Any.stringslite_Index_one laysIx (str l) c w
set_option maxHeartbeats 2000000 in
set_option maxRecDepth 100000 in
theorem liteCut_any (l : List UInt8) (c : UInt8) (w : World) (hl : l.length ≤ 1000000000) :
    Calls Tryz.prog 73 #[.string (str l), .string ⟨#[c]⟩] w fun e w' => e = .returned (.tuple #[.string (str (cutF c l)), .string (str (cutR c l)), .bool (hasC c l)]) ∧ Below w.heap.size w w' := by
  have HI := hide (fun wx => index_any l c wx)
  have hsz := str_size l
  cases hh : hasC c l with
  | false =>
    obtain ⟨h1, h2, h3⟩ := index_lacks l hh
    rw [h1] at HI
    rw [h2, h3]
    clear h1 h2 h3 hh
    go_enter Tryz.func73, Tryz.ntmps73
    go_wp2_with (go_at_call 85
                 refine (HI.out _).mono ?_
                 rintro e w1 ⟨rfl, rfl⟩)
    go_ret3
    exact ⟨rfl, Below.refl _ _⟩
  | true =>
    obtain ⟨h1, h2, h3⟩ := index_has l hh
    have E1 : str (cutF c l) = (str l).extract 0 (cutF c l).length := by
      rw [str_extract, List.drop_zero, Nat.sub_zero, h3]
    have E2 : str (cutR c l) = (str l).extract ((cutF c l).length + 1) (str l).size := by rw [str_extract_end]; rfl
    rw [h1] at HI
    rw [E1, E2]
    clear E1 E2 h1 h3 hh
    generalize (cutF c l).length = k at *
    have hs1 : ((k : Nat) : Int) + 1 ≤ ((str l).size : Int) := by omega
    have hs2 : (k : Int) ≤ ((str l).size : Int) := by omega
    have hs3 : (0 : Int) ≤ (k : Int) := by omega
    have hc1 : (⟨#[c]⟩ : ByteArray).size = 1 := rfl
    have e1 : ∀ wx : World, (Instr.slice 9 (.string (str l)) none (some (.int .i64 (k : Int))) none).run Tryz.prog wx = .ok (.string ((str l).extract 0 k)) wx := fun wx => by
      rw [run_slice_string_h wx 9 (str l) Tryz.underlying9 .i64 _ (by omega) (by omega), Int.toNat_natCast]
    have e2 : ∀ wx : World, (Instr.slice 9 (.string (str l)) (some (.int .i64 ((k : Int) + 1))) none none).run Tryz.prog wx = .ok (.string ((str l).extract (k + 1) (str l).size)) wx := fun wx => by
      rw [run_slice_string_l wx 9 (str l) Tryz.underlying9 .i64 _ (by omega) (by omega)]
      congr 2
    have hi4 : IntKind.i64.wrap ((k : Int) + 1) = (k : Int) + 1 := by rw [IntKind.wrap_i64]; omega
    go_enter Tryz.func73, Tryz.ntmps73
    go_upto_region 3 with (go_at_call 85; refine (HI.out _).mono ?_; rintro e w1 ⟨rfl, rfl⟩)
    go_quiet (fail)
    go_wp2
    go_ret3
    exact ⟨rfl, quiet_bb _⟩
theorem cut_any (l : List UInt8) (c : UInt8) (w : World) (hl : l.length ≤ 1000000000) :
    Calls Tryz.prog 50 #[.string (str l), .string ⟨#[c]⟩] w fun e w' => e = .returned (.tuple #[.string (str (cutF c l)), .string (str (cutR c l)), .bool (hasC c l)]) ∧ Below w.heap.size w w' := by
  have HI := hide (liteCut_any l c w hl)
  generalize cutF c l = a at *
  generalize cutR c l = b at *
  generalize hasC c l = h at *
  go_enter Tryz.func50, Tryz.ntmps50
  go_wp2_with (go_at_call 73
               refine HI.out.mono ?_
               rintro e w1 ⟨rfl, hb⟩)
  go_ret3
  exact ⟨rfl, hb⟩
end Go.Proofs.YtmcpdcfeappokaaGreatDoor.Need
