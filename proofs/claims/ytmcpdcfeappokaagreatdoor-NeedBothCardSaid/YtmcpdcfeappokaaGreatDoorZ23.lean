/-
  Some texts of this claim, one behind the other: VerMath, RuleMath, RuleCutM, RuleShowM. What each proves, and its condition, stands at its head.
-/
import Derived.Test.YtmcpdcfeappokaaGreatDoorZ1
import Derived.Test.YtmcpdcfeappokaaGreatDoorZ5
import Derived.Lib.ItoaNum
/-
  Plain mathematics of versions: places and parts, decimal texts, and how a text is gone through. No program.
-/
namespace Go.Proofs.YtmcpdcfeappokaaGreatDoor.Ver
open Go.RowKit Go.Lib Go.Proofs.YtmcpdcfeappokaaGreatDoor.Label
set_option linter.unusedVariables false
def pA (p : Nat) : Nat := p / 1000000 % 1000
def pB (p : Nat) : Nat := p / 1000 % 1000
def pC (p : Nat) : Nat := p % 1000
def three (x y z : Int) : Array Value := #[.int .i64 x, .int .i64 y, .int .i64 z]
def partsOf (p : Nat) : Array Value := three (pA p : Nat) (pB p : Nat) (pC p : Nat)
/-- Whether parts are a version's. -/
def Fits (x y z : Int) : Prop := (0 ≤ x ∧ x ≤ 999) ∧ (0 ≤ y ∧ y ≤ 999) ∧ (0 ≤ z ∧ z ≤ 999)
instance (x y z : Int) : Decidable (Fits x y z) := by unfold Fits; infer_instance
def placeN (x y z : Int) : Nat := (x * 1000000 + y * 1000 + z).toNat
theorem place_lt {x y z : Int} (h : Fits x y z) : placeN x y z < 1000000000 := by unfold Fits at h; unfold placeN; omega
theorem place_parts {x y z : Int} (h : Fits x y z) : (pA (placeN x y z) : Int) = x ∧ (pB (placeN x y z) : Int) = y ∧ (pC (placeN x y z) : Int) = z := by
  unfold Fits at h; unfold pA pB pC placeN; omega
theorem parts_fit (p : Nat) : Fits (pA p : Nat) (pB p : Nat) (pC p : Nat) := by unfold Fits pA pB pC; omega
theorem parts_place {p : Nat} (h : p < 1000000000) : placeN (pA p : Nat) (pB p : Nat) (pC p : Nat) = p := by unfold pA pB pC placeN; omega
/-- A version's text. -/
def txt (p : Nat) : List UInt8 := decDigits (pA p) ++ (46 :: (decDigits (pB p) ++ (46 :: decDigits (pC p))))
theorem dec3 {n : Nat} (h1 : ¬ n < 100) (h2 : n < 1000) : decDigits n = [UInt8.ofNat (48 + n / 100), UInt8.ofNat (48 + n / 10 % 10), UInt8.ofNat (48 + n % 10)] := by
  rw [decDigits, dif_neg (by omega), decDigits_two (by omega) (by omega)]
  simp only [List.cons_append, List.nil_append]
  rw [show n / 10 / 10 = n / 100 by omega]
theorem dec_cases {n : Nat} (h : n < 1000) : ∃ l : List Nat, decDigits n = l.map (fun d => UInt8.ofNat (48 + d)) ∧ (∀ d ∈ l, d < 10) ∧ 1 ≤ l.length ∧ l.length ≤ 3 ∧ l.foldl (fun a d => a * 10 + d) 0 = n := by
  by_cases h1 : n < 10
  · exact ⟨[n], by rw [decDigits_one h1]; rfl, by simpa using h1, by simp, by simp, by simp⟩
  · by_cases h2 : n < 100
    · exact ⟨[n / 10, n % 10], by rw [decDigits_two h1 h2]; rfl, by intro d hd; simp at hd; omega, by simp, by simp, by simp; omega⟩
    · exact ⟨[n / 100, n / 10 % 10, n % 10], by rw [dec3 h2 h]; rfl, by intro d hd; simp at hd; omega, by simp, by simp, by simp; omega⟩
theorem dec_len {n : Nat} (h : n < 1000) : 1 ≤ (decDigits n).length ∧ (decDigits n).length ≤ 3 := by
  obtain ⟨l, h1, _, h2, h3, _⟩ := dec_cases h
  rw [h1, List.length_map]; exact ⟨h2, h3⟩
theorem txt_len (p : Nat) : 5 ≤ (txt p).length ∧ (txt p).length ≤ 11 := by
  have a := dec_len (n := pA p) (by unfold pA; omega)
  have b := dec_len (n := pB p) (by unfold pB; omega)
  have c := dec_len (n := pC p) (by unfold pC; omega)
  unfold txt
  simp only [List.length_append, List.length_cons]
  omega
/-- How the program goes through a text: three parts, and which of them is at hand. -/
structure St where
  at_ : Nat
  x : Int
  y : Int
  z : Int
def digit (a : Int) (r : Nat) : Int := wrap64 (wrap64 (a * 10) + ((r : Int) - 48))
/-- One rune more; none behind a third dot. -/
def step (s : St) (r : Nat) : Option St :=
  if r = 46 then (if s.at_ = 2 then none else some ⟨s.at_ + 1, s.x, s.y, s.z⟩)
  else if s.at_ = 0 then some ⟨0, digit s.x r, s.y, s.z⟩ else if s.at_ = 1 then some ⟨1, s.x, digit s.y r, s.z⟩ else some ⟨2, s.x, s.y, digit s.z r⟩
def go : Option St → List Nat → Option St
  | none, _ => none
  | some s, [] => some s
  | some s, r :: l => go (step s r) l
theorem go_none (l : List Nat) : go none l = none := by cases l <;> rfl
theorem go_append : ∀ (l m : List Nat) (s : Option St), go s (l ++ m) = go (go s l) m
  | [], m, none => by rw [go_none, go_none, go_none]
  | [], m, some s => rfl
  | r :: l, m, none => by rw [go_none, go_none, go_none]
  | r :: l, m, some s => by show go (step s r) (l ++ m) = go (go (step s r) l) m; exact go_append l m _
/-- The number that digits say, behind what was said. -/
def say : Int → List Nat → Int
  | a, [] => a
  | a, d :: l => say (a * 10 + (d : Int)) l
theorem say_nat (a : Nat) (l : List Nat) : say (a : Int) l = ((l.foldl (fun (a d : Nat) => a * 10 + d) a : Nat) : Int) := by
  induction l generalizing a with
  | nil => rfl
  | cons d l ih =>
    show say ((a : Int) * 10 + (d : Int)) l = ((l.foldl (fun (a d : Nat) => a * 10 + d) (a * 10 + d) : Nat) : Int)
    rw [← ih]; congr 1
theorem w64 {n : Int} (h0 : 0 ≤ n) (h1 : n < 9223372036854775808) : wrap64 n = n := by unfold wrap64; omega
theorem digit_say {a : Int} {d : Nat} (h0 : 0 ≤ a) (h1 : a ≤ 100000) (hd : d < 10) : digit a (48 + d) = a * 10 + (d : Int) := by
  unfold digit
  rw [w64 (n := a * 10) (by omega) (by omega), w64 (by omega) (by omega)]; omega
theorem go_digits (s : St) (l : List Nat) (a : Int) (n : Nat) (hs : s.at_ < 3) (h0 : 0 ≤ a) (ha : a + 1 ≤ 10 ^ n) (hn : n + l.length ≤ 5) (hd : ∀ d ∈ l, d < 10)
    (he : (if s.at_ = 0 then s.x else if s.at_ = 1 then s.y else s.z) = a) :
    go (some s) (l.map (48 + ·)) = some (if s.at_ = 0 then ⟨0, say a l, s.y, s.z⟩ else if s.at_ = 1 then ⟨1, s.x, say a l, s.z⟩ else ⟨2, s.x, s.y, say a l⟩) := by
  induction l generalizing s a n with
  | nil =>
    obtain ⟨k, x, y, z⟩ := s
    simp only at hs he ⊢
    subst he
    have hk : k = 0 ∨ k = 1 ∨ k = 2 := by omega
    rcases hk with rfl | rfl | rfl <;> simp [go, say]
  | cons d l ih =>
    have hd0 := hd d (by simp)
    have h5 : a ≤ 100000 := by
      have : (10 : Int) ^ n ≤ 10 ^ 5 := by
        have := Nat.pow_le_pow_right (n := 10) (by omega) (show n ≤ 5 by simp at hn; omega)
        exact_mod_cast this
      omega
    have hg := digit_say h0 h5 hd0
    have hp : a * 10 + (d : Int) + 1 ≤ 10 ^ (n + 1) := by rw [Int.pow_succ]; omega
    have hne : ¬ 48 + d = 46 := by omega
    obtain ⟨k, x, y, z⟩ := s
    simp only at hs he
    have hk : k = 0 ∨ k = 1 ∨ k = 2 := by omega
    rw [List.map_cons]
    rcases hk with rfl | rfl | rfl
    · simp only [if_true] at he
      subst he
      show go (step ⟨0, x, y, z⟩ (48 + d)) _ = _
      rw [show step ⟨0, x, y, z⟩ (48 + d) = some ⟨0, x * 10 + (d : Int), y, z⟩ by simp [step, hne, hg]]
      exact ih ⟨0, x * 10 + (d : Int), y, z⟩ _ (n + 1) (by simp) (by omega) hp (by simp at hn; omega) (fun e he => hd e (by simp [he])) rfl
    · simp at he
      subst he
      show go (step ⟨1, x, y, z⟩ (48 + d)) _ = _
      rw [show step ⟨1, x, y, z⟩ (48 + d) = some ⟨1, x, y * 10 + (d : Int), z⟩ by simp [step, hne, hg]]
      exact ih ⟨1, x, y * 10 + (d : Int), z⟩ _ (n + 1) (by simp) (by omega) hp (by simp at hn; omega) (fun e he => hd e (by simp [he])) rfl
    · simp at he
      subst he
      show go (step ⟨2, x, y, z⟩ (48 + d)) _ = _
      rw [show step ⟨2, x, y, z⟩ (48 + d) = some ⟨2, x, y, z * 10 + (d : Int)⟩ by simp [step, hne, hg]]
      exact ih ⟨2, x, y, z * 10 + (d : Int)⟩ _ (n + 1) (by simp) (by omega) hp (by simp at hn; omega) (fun e he => hd e (by simp [he])) rfl
theorem map_digits (l : List Nat) (h : ∀ d ∈ l, d < 10) : (l.map (fun d => UInt8.ofNat (48 + d))).map UInt8.toNat = l.map (48 + ·) := by
  rw [List.map_map]
  refine List.map_congr_left fun d hd => ?_
  have := h d hd
  simp only [Function.comp, UInt8.toNat_ofNat']
  omega
/-- The digits of a number below 1000, as runes. -/
theorem dec_runes {n : Nat} (h : n < 1000) : ∃ l : List Nat, (decDigits n).map UInt8.toNat = l.map (48 + ·) ∧ (∀ d ∈ l, d < 10) ∧ l.length ≤ 3 ∧ say 0 l = (n : Int) := by
  obtain ⟨l, h1, h2, _, h3, h4⟩ := dec_cases h
  exact ⟨l, by rw [h1, map_digits l h2], h2, h3, by have := say_nat 0 l; rw [h4] at this; exact this⟩
theorem go_txt (p : Nat) : go (some ⟨0, 0, 0, 0⟩) ((txt p).map UInt8.toNat) = some ⟨2, (pA p : Nat), (pB p : Nat), (pC p : Nat)⟩ := by
  obtain ⟨la, a1, a2, a3, a4⟩ := dec_runes (n := pA p) (by unfold pA; omega)
  obtain ⟨lb, b1, b2, b3, b4⟩ := dec_runes (n := pB p) (by unfold pB; omega)
  obtain ⟨lc, c1, c2, c3, c4⟩ := dec_runes (n := pC p) (by unfold pC; omega)
  unfold txt
  rw [List.map_append, List.map_cons, List.map_append, List.map_cons, a1, b1, c1, go_append,
    go_digits ⟨0, 0, 0, 0⟩ la 0 0 (by simp) (by omega) (by simp) (by omega) a2 rfl, a4]
  show go (step ⟨0, (pA p : Nat), 0, 0⟩ 46) _ = _
  rw [show step ⟨0, (pA p : Nat), 0, 0⟩ 46 = some ⟨1, (pA p : Nat), 0, 0⟩ from rfl, go_append,
    go_digits ⟨1, (pA p : Nat), 0, 0⟩ lb 0 0 (by simp) (by omega) (by simp) (by omega) b2 rfl, b4]
  show go (step ⟨1, (pA p : Nat), (pB p : Nat), 0⟩ 46) _ = _
  rw [show step ⟨1, (pA p : Nat), (pB p : Nat), 0⟩ 46 = some ⟨2, (pA p : Nat), (pB p : Nat), 0⟩ from rfl,
    go_digits ⟨2, (pA p : Nat), (pB p : Nat), 0⟩ lc 0 0 (by simp) (by omega) (by simp) (by omega) c2 rfl, c4]
  rfl
/-- A text of plain bytes is gone through byte by byte. -/
theorem byt_str (l : List UInt8) (i : Nat) (h : i < l.length) : byt (str l) i = (l[i]).toNat := by
  have h' : i < (str l).size := by rw [str_size]; exact h
  rw [← byt_at (str l) i h']; rfl
theorem dec_ascii (l : List UInt8) (i : Nat) (h : i < l.length) (ha : (l[i]).toNat < 128) : rn (str l) i = (l[i]).toNat ∧ wd (str l) i = 1 := by
  have hb := byt_str l i h
  unfold rn wd
  rw [dec_eq, hb, str_size]
  unfold decodeN
  rw [if_pos ha]
  exact ⟨rfl, rfl⟩
theorem runes_ascii (l : List UInt8) (ha : ∀ b ∈ l, b.toNat < 128) (i : Nat) : runes (str l) i = (l.drop i).map UInt8.toNat := by
  induction hk : l.length - i using Nat.strongRecOn generalizing i with
  | _ k ih =>
    by_cases h : i < l.length
    · obtain ⟨h1, h2⟩ := dec_ascii l i h (ha _ (List.getElem_mem h))
      rw [runes_step _ _ (by rw [str_size]; exact h), h1, h2, ih (l.length - (i + 1)) (by omega) (i + 1) rfl, List.drop_eq_getElem_cons h]
      rfl
    · rw [runes_end _ _ (by rw [str_size]; exact h), List.drop_of_length_le (by omega)]; rfl
theorem dec_ascii_all {n : Nat} (h : n < 1000) : ∀ b ∈ decDigits n, b.toNat < 128 := by
  obtain ⟨l, h1, h2, _⟩ := dec_cases h
  intro b hb
  rw [h1, List.mem_map] at hb
  obtain ⟨d, hd, rfl⟩ := hb
  have := h2 d hd
  rw [UInt8.toNat_ofNat']; omega
theorem txt_ascii (p : Nat) : ∀ b ∈ txt p, b.toNat < 128 := by
  intro b hb
  unfold txt at hb
  simp only [List.mem_append, List.mem_cons] at hb
  rcases hb with hb | rfl | hb | rfl | hb
  · exact dec_ascii_all (by unfold pA; omega) b hb
  · decide
  · exact dec_ascii_all (by unfold pB; omega) b hb
  · decide
  · exact dec_ascii_all (by unfold pC; omega) b hb
/-- What is read of a text. -/
def readR (s : ByteArray) : Option Nat :=
  match go (some ⟨0, 0, 0, 0⟩) (runes s 0) with
  | none => none
  | some t => if Fits t.x t.y t.z ∧ str (txt (placeN t.x t.y t.z)) = s then some (placeN t.x t.y t.z) else none
theorem read_txt {p : Nat} (h : p < 1000000000) : readR (str (txt p)) = some p := by
  unfold readR
  rw [runes_ascii _ (txt_ascii p) 0, List.drop_zero, go_txt]
  simp only
  rw [parts_place h, if_pos ⟨parts_fit p, rfl⟩]
theorem read_some {s : ByteArray} {p : Nat} (h : readR s = some p) : s = str (txt p) ∧ p < 1000000000 := by
  unfold readR at h
  split at h
  · cases h
  · split at h
    · rename_i hc
      injection h with h
      subst h
      exact ⟨hc.2.symm, place_lt hc.1⟩
    · cases h
/-- How the document goes through a text: what the parts ahead come to, and the part at hand. -/
def rstep (q : Int × Int) (b : UInt8) : Int × Int :=
  if b.toNat = 46 then (wrap64 (wrap64 (q.1 + q.2) * 1000), 0) else (q.1, wrap64 (wrap64 (q.2 * 10) + ((b.toNat % 48 % 10 : Nat) : Int)))
def rgo (q : Int × Int) (l : List UInt8) : Int × Int := l.foldl rstep q
theorem rgo_digits (l : List Nat) (q a : Int) (n : Nat) (h0 : 0 ≤ a) (ha : a + 1 ≤ 10 ^ n) (hn : n + l.length ≤ 5) (hd : ∀ d ∈ l, d < 10) :
    rgo (q, a) (l.map (fun d => UInt8.ofNat (48 + d))) = (q, say a l) := by
  induction l generalizing a n with
  | nil => rfl
  | cons d l ih =>
    have hd0 := hd d (by simp)
    have h5 : a ≤ 100000 := by
      have : (10 : Int) ^ n ≤ 10 ^ 5 := by
        have := Nat.pow_le_pow_right (n := 10) (by omega) (show n ≤ 5 by simp at hn; omega)
        exact_mod_cast this
      omega
    have hb : (UInt8.ofNat (48 + d)).toNat = 48 + d := by rw [UInt8.toNat_ofNat']; omega
    have hs : rstep (q, a) (UInt8.ofNat (48 + d)) = (q, a * 10 + (d : Int)) := by
      unfold rstep
      rw [hb, if_neg (by omega), w64 (n := a * 10) (by omega) (by omega), show (48 + d) % 48 % 10 = d by omega, w64 (by omega) (by omega)]
    show rgo (rstep (q, a) (UInt8.ofNat (48 + d))) _ = _
    rw [hs]
    exact ih _ (n + 1) (by omega) (by rw [Int.pow_succ]; omega) (by simp at hn; omega) (fun e he => hd e (by simp [he]))
theorem rgo_append (q : Int × Int) (l m : List UInt8) : rgo q (l ++ m) = rgo (rgo q l) m := List.foldl_append
theorem rgo_dec {n : Nat} (h : n < 1000) (q : Int) : rgo (q, 0) (decDigits n) = (q, (n : Int)) := by
  obtain ⟨l, h1, h2, _, h3, h4⟩ := dec_cases h
  rw [h1, rgo_digits l q 0 0 (by omega) (by simp) (by omega) h2]
  have := say_nat 0 l
  rw [h4] at this
  exact congrArg (Prod.mk q) this
theorem rgo_dot (q a : Int) (l : List UInt8) (h0 : 0 ≤ q + a) (h1 : q + a < 1000000000000) : rgo (q, a) (46 :: l) = rgo ((q + a) * 1000, 0) l := by
  show rgo (rstep (q, a) 46) l = _
  unfold rstep
  rw [if_pos (show UInt8.toNat 46 = 46 from rfl), w64 (n := q + a) (by omega) (by omega), w64 (by omega) (by omega)]
theorem rgo_txt {p : Nat} (h : p < 1000000000) : (rgo (0, 0) (txt p)).1 + (rgo (0, 0) (txt p)).2 = (p : Int) := by
  have ha : pA p < 1000 := by unfold pA; omega
  have hb : pB p < 1000 := by unfold pB; omega
  have hc : pC p < 1000 := by unfold pC; omega
  unfold txt
  rw [rgo_append, rgo_dec ha, rgo_dot _ _ _ (by omega) (by omega), rgo_append, rgo_dec hb, rgo_dot _ _ _ (by omega) (by omega), rgo_dec hc]
  unfold pA pB pC
  omega
/-- What the document reads of a text. -/
def rreadR (s : ByteArray) : Option Nat :=
  let q := rgo (0, 0) s.data.toList
  let v := wrap64 (q.1 + q.2)
  if s.size ≤ 11 ∧ (0 ≤ v ∧ v < 1000000000) ∧ str (txt v.toNat) = s then some v.toNat else none
theorem rread_txt {p : Nat} (h : p < 1000000000) : rreadR (str (txt p)) = some p := by
  have hd : (str (txt p)).data.toList = txt p := rfl
  have hl := txt_len p
  unfold rreadR
  simp only [hd, rgo_txt h]
  rw [w64 (by omega) (by omega), if_pos ⟨by rw [str_size]; omega, ⟨by omega, by omega⟩, by rw [Int.toNat_natCast]⟩, Int.toNat_natCast]
theorem rread_some {s : ByteArray} {p : Nat} (h : rreadR s = some p) : s = str (txt p) ∧ p < 1000000000 := by
  unfold rreadR at h
  simp only at h
  split at h
  · rename_i hc
    injection h with h
    subst h
    exact ⟨hc.2.2.symm, by omega⟩
  · cases h
theorem read_same (s : ByteArray) : readR s = rreadR s := by
  cases h : readR s with
  | some p =>
    obtain ⟨rfl, hp⟩ := read_some h
    exact (rread_txt hp).symm
  | none =>
    cases h' : rreadR s with
    | none => rfl
    | some p =>
      obtain ⟨rfl, hp⟩ := rread_some h'
      rw [read_txt hp] at h
      cases h
def optV : Option Nat → Int
  | some p => (p : Int)
  | none => 0
def unitN (k : Nat) : Nat := if k = 0 then 1000000 else if k = 1 then 1000 else 1
/-- The first place with one more of a part. -/
def afterN (p k : Nat) : Nat := (p / unitN k + 1) * unitN k
end Go.Proofs.YtmcpdcfeappokaaGreatDoor.Ver
/-
  Plain mathematics of rules: words and pieces of a text, what a comparison has as an interval, what a text is read as. No program.
-/
namespace Go.Proofs.YtmcpdcfeappokaaGreatDoor.Rule
open Go.RowKit Go.Lib Go.Proofs.YtmcpdcfeappokaaGreatDoor.Span
open Go.Proofs.YtmcpdcfeappokaaGreatDoor.Ver (txt readR rreadR afterN read_txt read_some rread_txt rread_some read_same txt_len)
set_option linter.unusedVariables false
/-- The signs' letters: = > < ^ ~. -/
def sg (b : UInt8) : Bool := b == 61 || b == 62 || b == 60 || b == 94 || b == 126
def topI : Int := 1000000000
/-- What a comparison of a sign and a version has, as an interval. -/
def ivOf (g : List UInt8) (p : Nat) : Option S :=
  if g = [61] then some ((p : Int), (p : Int) + 1)
  else if g = [62, 61] then some ((p : Int), 1000000000)
  else if g = [62] then some ((p : Int) + 1, 1000000000)
  else if g = [60, 61] then some (0, (p : Int) + 1)
  else if g = [60] then some (0, (p : Int))
  else if g = [94] then some ((p : Int), (afterN p (if p < 1000000 then 1 else 0) : Nat))
  else if g = [126] then some ((p : Int), (afterN p 1 : Nat))
  else none
def cmpI (w : List UInt8) : Option S :=
  match readR (str (w.dropWhile sg)) with
  | none => none
  | some p => ivOf (w.takeWhile sg) p
/-- How many bytes of a word are a sign, in the document's way. -/
def sgn : List UInt8 → Nat
  | [] => 0
  | [a] => if sg a then 1 else 0
  | a :: b :: _ => if b = 61 ∧ (a = 62 ∨ a = 60) then 2 else if sg a then 1 else 0
def rcmpI (w : List UInt8) : Option S :=
  match rreadR (str (w.drop (sgn w))) with
  | none => none
  | some p => if sgn w = 0 then none else ivOf (w.take (sgn w)) p
theorem txt_head (p : Nat) : ∃ d r, txt p = d :: r ∧ 48 ≤ d.toNat ∧ d.toNat ≤ 57 := by
  obtain ⟨l, h1, h2, h3, _⟩ := Ver.dec_cases (n := Ver.pA p) (by unfold Ver.pA; omega)
  cases l with
  | nil => simp at h3
  | cons d l =>
    have hd := h2 d (by simp)
    refine ⟨UInt8.ofNat (48 + d), l.map (fun d => UInt8.ofNat (48 + d)) ++ (46 :: (decDigits (Ver.pB p) ++ (46 :: decDigits (Ver.pC p)))), ?_, ?_, ?_⟩
    · unfold txt; rw [h1]; rfl
    · rw [UInt8.toNat_ofNat']; omega
    · rw [UInt8.toNat_ofNat']; omega
theorem sg_digit {d : UInt8} (h0 : 48 ≤ d.toNat) (h1 : d.toNat ≤ 57) : sg d = false ∧ d ≠ 61 := by
  have key : ∀ c : UInt8, 57 < c.toNat → d ≠ c := fun c hc e => by subst e; omega
  have a1 := key 61 (by decide)
  have a2 := key 62 (by decide)
  have a3 := key 60 (by decide)
  have a4 := key 94 (by decide)
  have a5 := key 126 (by decide)
  exact ⟨by simp [sg, a1, a2, a3, a4, a5], a1⟩
theorem drop_sg (g : List UInt8) (hg : ∀ b ∈ g, sg b = true) (p : Nat) : (g ++ txt p).dropWhile sg = txt p ∧ (g ++ txt p).takeWhile sg = g := by
  obtain ⟨d, r, hp, h0, h1⟩ := txt_head p
  have hd := (sg_digit h0 h1).1
  induction g with
  | nil => rw [List.nil_append, hp, List.dropWhile_cons, List.takeWhile_cons, hd]; simp
  | cons b g ih =>
    have hb := hg b (by simp)
    obtain ⟨i1, i2⟩ := ih fun c hc => hg c (by simp [hc])
    rw [List.cons_append, List.dropWhile_cons, List.takeWhile_cons, hb]
    simp [i1, i2]
theorem read_str {l : List UInt8} {p : Nat} (h : readR (str l) = some p) : l = txt p ∧ p < 1000000000 := by
  obtain ⟨h1, h2⟩ := read_some h
  exact ⟨str_inj.1 h1, h2⟩
theorem ivOf_some {g : List UInt8} {p : Nat} {i : S} (h : ivOf g p = some i) : g = [61] ∨ g = [62, 61] ∨ g = [62] ∨ g = [60, 61] ∨ g = [60] ∨ g = [94] ∨ g = [126] := by
  unfold ivOf at h
  repeat' split at h
  all_goals simp_all
theorem sgn_of {g : List UInt8} (hg : g = [61] ∨ g = [62, 61] ∨ g = [62] ∨ g = [60, 61] ∨ g = [60] ∨ g = [94] ∨ g = [126]) (p : Nat) : sgn (g ++ txt p) = g.length ∧ (∀ b ∈ g, sg b = true) := by
  obtain ⟨d, r, hp, h0, h1⟩ := txt_head p
  have hd := (sg_digit h0 h1).2
  rw [hp]
  rcases hg with rfl | rfl | rfl | rfl | rfl | rfl | rfl <;> (refine ⟨?_, by decide⟩; simp [sgn, hd]) <;> decide
theorem cmp_of {g : List UInt8} (hg : g = [61] ∨ g = [62, 61] ∨ g = [62] ∨ g = [60, 61] ∨ g = [60] ∨ g = [94] ∨ g = [126]) {p : Nat} (hp : p < 1000000000) : cmpI (g ++ txt p) = ivOf g p ∧ rcmpI (g ++ txt p) = ivOf g p := by
  obtain ⟨h1, h2⟩ := sgn_of hg p
  obtain ⟨h3, h4⟩ := drop_sg g h2 p
  constructor
  · unfold cmpI
    rw [h3, h4, read_txt hp]
  · unfold rcmpI
    rw [h1, List.drop_left, List.take_left, rread_txt hp]
    have : g.length ≠ 0 := by rcases hg with rfl | rfl | rfl | rfl | rfl | rfl | rfl <;> simp
    simp [this]
theorem cmp_some {w : List UInt8} {i : S} (h : cmpI w = some i) : ∃ g p, w = g ++ txt p ∧ p < 1000000000 ∧ ivOf g p = some i := by
  unfold cmpI at h
  cases hr : readR (str (w.dropWhile sg)) with
  | none => rw [hr] at h; cases h
  | some p =>
    rw [hr] at h
    obtain ⟨h1, h2⟩ := read_str hr
    exact ⟨w.takeWhile sg, p, by rw [← h1, List.takeWhile_append_dropWhile], h2, h⟩
theorem rcmp_some {w : List UInt8} {i : S} (h : rcmpI w = some i) : ∃ g p, w = g ++ txt p ∧ p < 1000000000 ∧ ivOf g p = some i := by
  unfold rcmpI at h
  cases hr : rreadR (str (w.drop (sgn w))) with
  | none => rw [hr] at h; cases h
  | some p =>
    rw [hr] at h
    obtain ⟨h1, h2⟩ := rread_some hr
    have h1 := str_inj.1 h1
    simp only at h
    split at h
    · cases h
    · exact ⟨w.take (sgn w), p, by rw [← h1, List.take_append_drop], h2, h⟩
theorem cmp_same (w : List UInt8) : rcmpI w = cmpI w := by
  cases h : cmpI w with
  | some i =>
    obtain ⟨g, p, rfl, hp, hi⟩ := cmp_some h
    rw [(cmp_of (ivOf_some hi) hp).2, hi]
  | none =>
    cases h' : rcmpI w with
    | none => rfl
    | some i =>
      obtain ⟨g, p, rfl, hp, hi⟩ := rcmp_some h'
      rw [(cmp_of (ivOf_some hi) hp).1, hi] at h
      cases h
/-- Words: their bytes, and their places. -/
abbrev W := List UInt8 × Nat
abbrev Pc := List W × Nat
def push (cur : List UInt8) (ws : List W) (b : Nat) : List W := if cur = [] then ws else ws ++ [(cur, b)]
/-- The pieces of a text, from a place on; what stands of the last word began at b. -/
def go : List UInt8 → Nat → List UInt8 → List W → List Pc
  | [], b, cur, ws => [(push cur ws b, b + cur.length)]
  | c :: l, b, cur, ws =>
    if c = 124 then (push cur ws b, b + cur.length) :: go l (b + cur.length + 1) [] []
    else if c = 32 then go l (b + cur.length + 1) [] (push cur ws b)
    else go l b (cur ++ [c]) ws
/-- The words of a piece. -/
def gow : List UInt8 → Nat → List UInt8 → List W → List W
  | [], b, cur, ws => push cur ws b
  | c :: l, b, cur, ws => if c = 32 then gow l (b + cur.length + 1) [] (push cur ws b) else gow l b (cur ++ [c]) ws
theorem go_piece (x : List UInt8) : ∀ (m : List UInt8) (b : Nat) (cur : List UInt8) (ws : List W), (∀ c ∈ x, c ≠ 124) →
    go (x ++ 124 :: m) b cur ws = (gow x b cur ws, b + cur.length + x.length) :: go m (b + cur.length + x.length + 1) [] [] := by
  induction x with
  | nil => intro m b cur ws _; simp [go, gow]
  | cons c x ih =>
    intro m b cur ws h
    have hc := h c (by simp)
    have hx : ∀ d ∈ x, d ≠ 124 := fun d hd => h d (by simp [hd])
    rw [List.cons_append, go, if_neg hc, gow]
    by_cases h32 : c = 32
    · rw [if_pos h32, if_pos h32, ih _ _ _ _ hx]
      simp only [List.length_cons, List.length_nil]
      congr 2 <;> omega
    · rw [if_neg h32, if_neg h32, ih _ _ _ _ hx]
      simp only [List.length_cons, List.length_append, List.length_nil]
      congr 2 <;> omega
theorem go_last (x : List UInt8) : ∀ (b : Nat) (cur : List UInt8) (ws : List W), (∀ c ∈ x, c ≠ 124) →
    go x b cur ws = [(gow x b cur ws, b + cur.length + x.length)] := by
  induction x with
  | nil => intro b cur ws _; simp [go, gow]
  | cons c x ih =>
    intro b cur ws h
    have hc := h c (by simp)
    have hx : ∀ d ∈ x, d ≠ 124 := fun d hd => h d (by simp [hd])
    rw [go, if_neg hc, gow]
    by_cases h32 : c = 32
    · rw [if_pos h32, if_pos h32, ih _ _ _ hx]
      simp only [List.length_cons, List.length_nil]
      congr 2; omega
    · rw [if_neg h32, if_neg h32, ih _ _ _ hx]
      simp only [List.length_cons, List.length_append, List.length_nil]
      congr 2; omega
/-- Two texts with a mark between. -/
theorem go_mark (x : List UInt8) : ∀ (m : List UInt8) (b : Nat) (cur : List UInt8) (ws : List W),
    go (x ++ 124 :: m) b cur ws = go x b cur ws ++ go m (b + cur.length + x.length + 1) [] [] := by
  induction x with
  | nil => intro m b cur ws; simp [go]
  | cons c x ih =>
    intro m b cur ws
    rw [List.cons_append, go, go]
    split
    · rw [ih]; simp only [List.length_cons, List.length_nil, List.cons_append]; congr 3; omega
    · split
      · rw [ih]; simp only [List.length_cons, List.length_nil]; congr 2; omega
      · rw [ih]; simp only [List.length_cons, List.length_append, List.length_nil]; congr 2; omega
/-- Two texts with a blank between, of which the first has no mark. -/
theorem gow_blank (x : List UInt8) : ∀ (m : List UInt8) (b : Nat) (cur : List UInt8) (ws : List W),
    gow (x ++ 32 :: m) b cur ws = gow m (b + cur.length + x.length + 1) [] (gow x b cur ws) := by
  induction x with
  | nil => intro m b cur ws; simp [gow]
  | cons c x ih =>
    intro m b cur ws
    rw [List.cons_append, gow, gow]
    split
    · rw [ih]; simp only [List.length_cons, List.length_nil]; congr 1; omega
    · rw [ih]; simp only [List.length_cons, List.length_append, List.length_nil]; congr 1; omega
theorem push_front (cur : List UInt8) (ws : List W) (b : Nat) (vs : List W) : push cur (vs ++ ws) b = vs ++ push cur ws b := by
  unfold push; split <;> simp
theorem gow_front (x : List UInt8) : ∀ (b : Nat) (cur : List UInt8) (vs ws : List W), gow x b cur (vs ++ ws) = vs ++ gow x b cur ws := by
  induction x with
  | nil => intro b cur vs ws; exact push_front _ _ _ _
  | cons c x ih =>
    intro b cur vs ws
    rw [gow, gow]
    split
    · rw [push_front, ih]
    · exact ih _ _ _ _
theorem push_texts (cur : List UInt8) (ws ws' : List W) (b b' : Nat) (h : ws.map Prod.fst = ws'.map Prod.fst) : (push cur ws b).map Prod.fst = (push cur ws' b').map Prod.fst := by
  unfold push; split <;> simp [h]
/-- A piece's words do not hang on where it stands. -/
theorem gow_texts (x : List UInt8) : ∀ (b b' : Nat) (cur : List UInt8) (ws ws' : List W), ws.map Prod.fst = ws'.map Prod.fst → (gow x b cur ws).map Prod.fst = (gow x b' cur ws').map Prod.fst := by
  induction x with
  | nil => intro b b' cur ws ws' h; exact push_texts _ _ _ _ _ h
  | cons c x ih =>
    intro b b' cur ws ws' h
    rw [gow, gow]
    split
    · exact ih _ _ _ _ _ (push_texts _ _ _ _ _ h)
    · exact ih _ _ _ _ _ h
theorem go_texts (x : List UInt8) : ∀ (b b' : Nat) (cur : List UInt8) (ws ws' : List W), ws.map Prod.fst = ws'.map Prod.fst → (go x b cur ws).map (fun q => q.1.map Prod.fst) = (go x b' cur ws').map (fun q => q.1.map Prod.fst) := by
  induction x with
  | nil => intro b b' cur ws ws' h; simp only [go, List.map_cons, List.map_nil]; rw [push_texts _ _ _ _ _ h]
  | cons c x ih =>
    intro b b' cur ws ws' h
    rw [go, go]
    split
    · simp only [List.map_cons]; rw [push_texts _ _ _ _ _ h, ih _ _ _ _ _ rfl]
    · split
      · exact ih _ _ _ _ _ (push_texts _ _ _ _ _ h)
      · exact ih _ _ _ _ _ h
theorem go_len (x : List UInt8) : ∀ (b : Nat) (cur : List UInt8) (ws : List W), (go x b cur ws).length ≤ x.length + 1 := by
  induction x with
  | nil => intro b cur ws; simp [go]
  | cons c x ih =>
    intro b cur ws
    rw [go]
    split
    · have := ih (b + cur.length + 1) [] []; simp only [List.length_cons]; omega
    · split
      · have := ih (b + cur.length + 1) [] (push cur ws b); simp only [List.length_cons]; omega
      · have := ih b (cur ++ [c]) ws; simp only [List.length_cons]; omega
/-- What both of two intervals have. -/
def inter (a b : S) : S := (Max.max a.1 b.1, Min.min a.2 b.2)
def anyL : List UInt8 := [97, 110, 121]
def noneL : List UInt8 := [110, 111, 110, 101]
/-- What a word has, alone in its piece, or not. -/
def mean (alone : Bool) (w : List UInt8) : Option S :=
  if alone = true ∧ w = anyL then some (0, 1000000000) else if alone = true ∧ w = noneL then some (0, 0) else cmpI w
/-- What all of some words have; or the place of the first that is wrong. -/
def meetI (alone : Bool) : S → List W → Except Nat S
  | a, [] => .ok a
  | a, (w, p) :: r => match mean alone w with
    | none => .error p
    | some i => meetI alone (inter a i) r
def pieceI (q : Pc) : Except Nat S := if q.1 = [] then .error q.2 else meetI (decide (q.1.length = 1)) (0, 1000000000) q.1
def readI : List S → List Pc → Except Nat (List S)
  | acc, [] => .ok acc
  | acc, q :: r => match pieceI q with
    | .error e => .error e
    | .ok i => readI (acc ++ [i]) r
/-- A text's pieces. -/
def cutL (s : List UInt8) : List Pc := go s 0 [] []
/-- What is read of a text: its set, a place, an error. -/
noncomputable def setOf (l : List S) : List S := nf (has l)
inductive Told where
  | ok : List S → Told
  | form : Nat → Told
  | long : Told
noncomputable def told (s : List UInt8) : Told :=
  if 400 < s.length then .long else match readI [] (cutL s) with
    | .error e => .form e
    | .ok l => if 6 < (setOf l).length then .long else .ok (setOf l)
/-! What words have does not hang on their places. -/
def meetT (alone : Bool) : S → List (List UInt8) → Option S
  | a, [] => some a
  | a, w :: r => match mean alone w with
    | none => none
    | some i => meetT alone (inter a i) r
theorem meet_T (alone : Bool) (ws : List W) : ∀ a, (meetI alone a ws).toOption = meetT alone a (ws.map Prod.fst) := by
  induction ws with
  | nil => intro a; rfl
  | cons w r ih =>
    intro a
    simp only [meetI, List.map_cons, meetT]
    cases mean alone w.1 with
    | none => rfl
    | some i => exact ih _
def pieceT (ws : List (List UInt8)) : Option S := if ws = [] then none else meetT (decide (ws.length = 1)) (0, 1000000000) ws
theorem piece_T (q : Pc) : (pieceI q).toOption = pieceT (q.1.map Prod.fst) := by
  unfold pieceI pieceT
  by_cases h : q.1 = []
  · rw [if_pos h, h]; rfl
  · rw [if_neg h, if_neg (by simpa using h), meet_T, List.length_map]
def readT : List S → List (List (List UInt8)) → Option (List S)
  | acc, [] => some acc
  | acc, q :: r => match pieceT q with
    | none => none
    | some i => readT (acc ++ [i]) r
theorem read_T (l : List Pc) : ∀ acc, (readI acc l).toOption = readT acc (l.map fun q => q.1.map Prod.fst) := by
  induction l with
  | nil => intro acc; rfl
  | cons q r ih =>
    intro acc
    simp only [readI, List.map_cons, readT]
    have hq := piece_T q
    cases hp : pieceI q with
    | error e => rw [hp] at hq; rw [← hq]; rfl
    | ok i => rw [hp] at hq; rw [← hq]; exact ih _
theorem readT_append (l m : List (List (List UInt8))) : ∀ acc, readT acc (l ++ m) = (readT acc l).bind fun a => readT a m := by
  induction l with
  | nil => intro acc; rfl
  | cons q r ih =>
    intro acc
    simp only [List.cons_append, readT]
    cases pieceT q with
    | none => rfl
    | some i => exact ih _
theorem readT_front (l : List (List (List UInt8))) : ∀ a b, readT (a ++ b) l = (readT b l).map (a ++ ·) := by
  induction l with
  | nil => intro a b; rfl
  | cons q r ih =>
    intro a b
    simp only [readT]
    cases pieceT q with
    | none => rfl
    | some i => simp only; rw [List.append_assoc]; exact ih _ _
theorem readT_len (l : List (List (List UInt8))) : ∀ a b, readT a l = some b → b.length = a.length + l.length := by
  induction l with
  | nil => intro a b h; injection h with h; subst h; rfl
  | cons q r ih =>
    intro a b h
    simp only [readT] at h
    cases hp : pieceT q with
    | none => rw [hp] at h; cases h
    | some i =>
      rw [hp] at h
      have := ih _ _ h
      simp at this ⊢
      omega
theorem toOption_some {e : Except Nat (List S)} {l : List S} : e.toOption = some l ↔ e = .ok l := by
  cases e with
  | error x => simp [Except.toOption]
  | ok x => simp [Except.toOption]
/-! Sets. -/
theorem setOf_set (l : List S) : isSet (-1) (setOf l) = true := nf_set _
theorem setOf_append (a b : List S) : setOf (a ++ b) = nf fun p => has (setOf a) p || has (setOf b) p := nf_congr fun p h0 h1 => by
  unfold setOf
  rw [has_append, nf_in _ h0 h1, nf_in _ h0 h1]
theorem setOf_inter (a b : S) : setOf [inter a b] = nf fun p => has (setOf [a]) p && has (setOf [b]) p := nf_congr fun p h0 h1 => by
  unfold setOf
  rw [nf_in _ h0 h1, nf_in _ h0 h1, has_one, has_one, has_one, Bool.eq_iff_iff]
  simp only [Bool.and_eq_true, decide_eq_true_eq]
  show max a.1 b.1 ≤ p ∧ p < min a.2 b.2 ↔ _
  have e1 : max a.1 b.1 ≤ p ↔ a.1 ≤ p ∧ b.1 ≤ p := by omega
  have e2 : p < min a.2 b.2 ↔ p < a.2 ∧ p < b.2 := by omega
  rw [e1, e2]
  constructor
  · rintro ⟨⟨x, y⟩, z, t⟩; exact ⟨⟨x, z⟩, y, t⟩
  · rintro ⟨⟨x, y⟩, z, t⟩; exact ⟨⟨x, z⟩, y, t⟩
theorem setOf_nil : setOf [] = [] := nf_nil.2 fun _ _ _ => rfl
theorem setOf_all : setOf [(0, 1000000000)] = [(0, 1000000000)] := (is_nf (L := [(0, 1000000000)]) (by decide) fun _ _ _ => rfl).symm
theorem setOf_none : setOf [(0, 0)] = [] := nf_nil.2 fun p _ _ => by rw [has_one]; simp
theorem setOf_self {l : List S} (h : isSet (-1) l = true) : setOf l = l := nf_self h
/-- A set has no more spans than what it is put together of. -/
theorem setOf_len (l : List S) : (setOf l).length ≤ l.length := by
  have h1 : ∀ s, s ∈ (some_ l).mergeSort (fun a b => decide (a.1 ≤ b.1)) ↔ s ∈ some_ l := fun s => List.mem_mergeSort
  have h2 : ((some_ l).mergeSort (fun a b => decide (a.1 ≤ b.1))).Pairwise (fun x y => x.1 ≤ y.1) := by
    have := List.pairwise_mergeSort (le := fun (a b : S) => decide (a.1 ≤ b.1)) (by intro a b c h h'; simp at *; omega) (by intro a b; simp; omega) (some_ l)
    exact this.imp (by intro a b h; simpa using h)
  have h3 := of_sorted h1 h2
  unfold setOf
  rw [← h3]
  have h4 : ∀ (d L : List S), (d.foldl put L).length ≤ L.length + d.length := by
    intro d
    induction d with
    | nil => intro L; simp
    | cons s t ih =>
      intro L
      have := ih (put L s)
      have := (put_length L s).1
      simp only [List.foldl_cons, List.length_cons]
      omega
  have := h4 ((some_ l).mergeSort (fun a b => decide (a.1 ≤ b.1))) []
  rw [List.length_mergeSort] at this
  have := some_length l
  simp at *
  omega
end Go.Proofs.YtmcpdcfeappokaaGreatDoor.Rule
/-
  Plain mathematics: a text's pieces, gone through rune by rune. No program.
-/
namespace Go.Proofs.YtmcpdcfeappokaaGreatDoor.Rule
open Go.RowKit Go.Lib Go.Proofs.YtmcpdcfeappokaaGreatDoor.Label
set_option linter.unusedVariables false
theorem decN_bytes (n b0 b1 b2 b3 : Nat) (h0 : b0 < 256) : ((decodeN n b0 b1 b2 b3).1 < 128 → (decodeN n b0 b1 b2 b3).2 = 1 ∧ (decodeN n b0 b1 b2 b3).1 = b0) ∧
    (128 ≤ (decodeN n b0 b1 b2 b3).1 → 128 ≤ b0 ∧ (1 < (decodeN n b0 b1 b2 b3).2 → 128 ≤ b1) ∧ (2 < (decodeN n b0 b1 b2 b3).2 → 128 ≤ b2) ∧ (3 < (decodeN n b0 b1 b2 b3).2 → 128 ≤ b3)) := by
  unfold decodeN
  repeat' split
  all_goals (refine ⟨fun h => ?_, fun h => ?_⟩)
  all_goals first | exact ⟨rfl, rfl⟩ | (exfalso; simp only at h; omega) | (refine ⟨by omega, fun g => ?_, fun g => ?_, fun g => ?_⟩ <;> first | omega | (simp only at g; omega))
theorem byt_L (l : List UInt8) (i : Nat) (h : i < l.length) : byt (str l) i = (l[i]).toNat := Ver.byt_str l i h
theorem rune_low (l : List UInt8) (i : Nat) (h : i < l.length) (hX : rn (str l) i < 128) : wd (str l) i = 1 ∧ rn (str l) i = (l[i]).toNat := by
  have := (decN_bytes ((str l).size - i) (byt (str l) i) (byt (str l) (i + 1)) (byt (str l) (i + 2)) (byt (str l) (i + 3)) (byt_lt _ _)).1
  unfold rn wd at *
  rw [dec_eq] at *
  rw [← byt_L l i h]
  exact this hX
theorem rune_high (l : List UInt8) (i j : Nat) (h : i + j < l.length) (hX : 128 ≤ rn (str l) i) (hj : j < wd (str l) i) : 128 ≤ (l[i + j]).toNat := by
  have h4 := wd_le4 (str l) i (by rw [str_size]; omega)
  have := (decN_bytes ((str l).size - i) (byt (str l) i) (byt (str l) (i + 1)) (byt (str l) (i + 2)) (byt (str l) (i + 3)) (byt_lt _ _)).2
  rw [← byt_L l (i + j) h]
  unfold rn wd at *
  rw [dec_eq] at *
  obtain ⟨a, b, c, d⟩ := this hX
  have hj4 : j = 0 ∨ j = 1 ∨ j = 2 ∨ j = 3 := by omega
  rcases hj4 with rfl | rfl | rfl | rfl
  · exact a
  · exact b (by omega)
  · exact c (by omega)
  · exact d (by omega)
theorem go_skip (x : List UInt8) : ∀ (m : List UInt8) (b : Nat) (cur : List UInt8) (ws : List W), (∀ c ∈ x, c ≠ 32 ∧ c ≠ 124) → go (x ++ m) b cur ws = go m b (cur ++ x) ws := by
  induction x with
  | nil => intro m b cur ws _; simp
  | cons c x ih =>
    intro m b cur ws h
    have hc := h c (by simp)
    rw [List.cons_append, go, if_neg hc.2, if_neg hc.1, ih _ _ _ _ fun d hd => h d (by simp [hd]), List.append_assoc]
    rfl
/-- What stands between two places. -/
def seg (l : List UInt8) (b e : Nat) : List UInt8 := (l.drop b).take (e - b)
theorem seg_len (l : List UInt8) {b e : Nat} (h : b ≤ e) (he : e ≤ l.length) : (seg l b e).length = e - b := by
  unfold seg; rw [List.length_take, List.length_drop]; omega
theorem seg_more (l : List UInt8) {b e f : Nat} (h : b ≤ e) (he : e ≤ f) : seg l b e ++ seg l e f = seg l b f := by
  unfold seg
  have e1 : f - b = (e - b) + (f - e) := by omega
  rw [e1, List.take_add, List.drop_drop]
  congr 3
  omega
theorem seg_self (l : List UInt8) (b : Nat) : seg l b b = [] := by simp [seg]
theorem seg_nil (l : List UInt8) {b e : Nat} (h : b ≤ e) (he : e ≤ l.length) : seg l b e = [] ↔ b = e := by
  constructor
  · intro hs
    have := seg_len l h he
    rw [hs] at this
    simp at this
    omega
  · rintro rfl; exact seg_self l b
theorem seg_front (l m : List UInt8) {b e : Nat} (h : b ≤ e) (he : e ≤ l.length) : seg (l ++ m) b e = seg l b e := by
  unfold seg
  rw [List.drop_append_of_le_length (by omega), List.take_append_of_le_length (by rw [List.length_drop]; omega)]
/-- The pieces from a place on. -/
def goAt (l : List UInt8) (pos b : Nat) (ws : List W) : List Pc := go (l.drop pos) b (seg l b pos) ws
theorem goAt_zero (l : List UInt8) : goAt l 0 0 [] = cutL l := by unfold goAt cutL; rw [seg_self]; rfl
theorem goAt_end (l : List UInt8) {b : Nat} (ws : List W) (h : b ≤ l.length) : goAt l l.length b ws = [(push (seg l b l.length) ws b, l.length)] := by
  unfold goAt
  rw [List.drop_length, go, seg_len l h (Nat.le_refl _)]
  congr 2; omega
theorem goAt_skip (l : List UInt8) {pos b V : Nat} (ws : List W) (hb : b ≤ pos) (hV : pos + V ≤ l.length) (h : ∀ j, j < V → (hj : pos + j < l.length) → l[pos + j] ≠ 32 ∧ l[pos + j] ≠ 124) :
    goAt l pos b ws = goAt l (pos + V) b ws := by
  unfold goAt
  have e : l.drop pos = seg l pos (pos + V) ++ l.drop (pos + V) := by
    unfold seg
    rw [Nat.add_sub_cancel_left, ← List.drop_drop, List.take_append_drop]
  rw [e, go_skip _ _ _ _ _ ?_, seg_more l hb (by omega)]
  intro c hc
  obtain ⟨j, hj, rfl⟩ := List.mem_iff_getElem.1 hc
  have hjl := seg_len l (Nat.le_add_right pos V) hV
  have hj2 : j < V := by omega
  have hg : (seg l pos (pos + V))[j] = l[pos + j]'(by omega) := by
    have e1 : (seg l pos (pos + V))[j]? = some (l[pos + j]'(by omega)) := by
      unfold seg
      rw [List.getElem?_take_of_lt (by omega), List.getElem?_drop]
      exact List.getElem?_eq_getElem _
    exact (List.getElem?_eq_some_iff.1 e1).2
  rw [hg]
  exact h j hj2 (by omega)
theorem goAt_rune (l : List UInt8) {pos b : Nat} (ws : List W) (hb : b ≤ pos) (hp : pos < l.length) (h1 : rn (str l) pos ≠ 32) (h2 : rn (str l) pos ≠ 124) : goAt l pos b ws = goAt l (pos + wd (str l) pos) b ws := by
  have hw := wd_le (str l) pos (by rw [str_size]; exact hp)
  rw [str_size] at hw
  refine goAt_skip l ws hb hw fun j hj hl => ?_
  by_cases hX : rn (str l) pos < 128
  · obtain ⟨e1, e2⟩ := rune_low l pos hp hX
    rw [e1] at hj
    have : j = 0 := by omega
    subst this
    refine ⟨fun e => h1 ?_, fun e => h2 ?_⟩
    · rw [e2]; simp only [Nat.add_zero] at e; rw [e]; rfl
    · rw [e2]; simp only [Nat.add_zero] at e; rw [e]; rfl
  · have := rune_high l pos j hl (by omega) hj
    refine ⟨fun e => ?_, fun e => ?_⟩
    · rw [e] at this; exact absurd this (by decide)
    · rw [e] at this; exact absurd this (by decide)
theorem at_blank (l : List UInt8) {pos : Nat} (hp : pos < l.length) (h : rn (str l) pos = 32) : wd (str l) pos = 1 ∧ l[pos] = 32 := by
  obtain ⟨e1, e2⟩ := rune_low l pos hp (by omega)
  refine ⟨e1, ?_⟩
  rw [h] at e2
  exact UInt8.toNat_inj.1 e2.symm
theorem at_mark (l : List UInt8) {pos : Nat} (hp : pos < l.length) (h : rn (str l) pos = 124) : wd (str l) pos = 1 ∧ l[pos] = 124 := by
  obtain ⟨e1, e2⟩ := rune_low l pos hp (by omega)
  refine ⟨e1, ?_⟩
  rw [h] at e2
  exact UInt8.toNat_inj.1 e2.symm
theorem goAt_blank (l : List UInt8) {pos b : Nat} (ws : List W) (hb : b ≤ pos) (hp : pos < l.length) (h : l[pos] = 32) : goAt l pos b ws = goAt l (pos + 1) (pos + 1) (push (seg l b pos) ws b) := by
  unfold goAt
  rw [List.drop_eq_getElem_cons hp, h, go, if_neg (by decide), if_pos rfl, seg_self, seg_len l hb (by omega)]
  congr 1; omega
theorem goAt_mark (l : List UInt8) {pos b : Nat} (ws : List W) (hb : b ≤ pos) (hp : pos < l.length) (h : l[pos] = 124) : goAt l pos b ws = (push (seg l b pos) ws b, pos) :: goAt l (pos + 1) (pos + 1) [] := by
  unfold goAt
  rw [List.drop_eq_getElem_cons hp, h, go, if_pos rfl, seg_self, seg_len l hb (by omega)]
  congr 2
  · omega
  · omega
theorem cut_mark (l : List UInt8) : cutL (l ++ [124]) = cutL l ++ [([], l.length + 1)] := by
  unfold cutL
  rw [go_mark]
  simp [go, push]
theorem cut_end {l : List UInt8} {ps : List Pc} {ws : List W} {b : Nat} (h : cutL l ++ [([], l.length + 1)] = ps ++ goAt (l ++ [124]) (l.length + 1) b ws) (hb : b ≤ l.length + 1) : cutL l = ps := by
  have e : (l ++ [124]).length = l.length + 1 := by simp
  have := goAt_end (l ++ [124]) ws (b := b) (by rw [e]; exact hb)
  rw [e] at this
  rw [this] at h
  exact (List.append_inj' h rfl).1
end Go.Proofs.YtmcpdcfeappokaaGreatDoor.Rule
/-
  Plain mathematics: how a set is written, and that it is read as that set; two rules with a mark, or a blank, between. No program.
-/
namespace Go.Proofs.YtmcpdcfeappokaaGreatDoor.Rule
open Go.RowKit Go.Lib Go.Proofs.YtmcpdcfeappokaaGreatDoor.Span
open Go.Proofs.YtmcpdcfeappokaaGreatDoor.Ver (txt readR afterN txt_len)
set_option linter.unusedVariables false
/-- The text of any place. -/
def tz (p : Int) : List UInt8 := if 0 ≤ p ∧ p < 1000000000 then txt p.toNat else []
theorem tz_in {p : Int} (h0 : 0 ≤ p) (h1 : p < 1000000000) : tz p = txt p.toNat := if_pos ⟨h0, h1⟩
/-- How a span is written. -/
def partL (s : S) : List UInt8 :=
  if s.2 = s.1 + 1 then 61 :: tz s.1
  else if s.1 = 0 then 60 :: tz s.2
  else if s.2 = 1000000000 then 62 :: 61 :: tz s.1
  else 62 :: 61 :: (tz s.1 ++ 32 :: 60 :: tz s.2)
def partWords (s : S) : List (List UInt8) :=
  if s.2 = s.1 + 1 then [61 :: tz s.1]
  else if s.1 = 0 then [60 :: tz s.2]
  else if s.2 = 1000000000 then [62 :: 61 :: tz s.1]
  else [62 :: 61 :: tz s.1, 60 :: tz s.2]
def joinL : List S → List UInt8
  | [] => []
  | [s] => partL s
  | s :: t => partL s ++ 32 :: 124 :: 32 :: joinL t
/-- How a set is written. -/
def showL (l : List S) : List UInt8 :=
  if isSet (-1) l = false then [] else if l = [] then noneL else if l = [(0, 1000000000)] then anyL else joinL l
theorem txt_byte (p : Nat) : ∀ b ∈ txt p, b = 46 ∨ (48 ≤ b.toNat ∧ b.toNat ≤ 57) := by
  have key : ∀ n, n < 1000 → ∀ b ∈ decDigits n, 48 ≤ b.toNat ∧ b.toNat ≤ 57 := by
    intro n hn b hb
    obtain ⟨l, h1, h2, _⟩ := Ver.dec_cases hn
    rw [h1, List.mem_map] at hb
    obtain ⟨d, hd, rfl⟩ := hb
    have := h2 d hd
    rw [UInt8.toNat_ofNat']; omega
  intro b hb
  unfold txt at hb
  simp only [List.mem_append, List.mem_cons] at hb
  rcases hb with hb | rfl | hb | rfl | hb
  · exact .inr (key _ (by unfold Ver.pA; omega) b hb)
  · exact .inl rfl
  · exact .inr (key _ (by unfold Ver.pB; omega) b hb)
  · exact .inl rfl
  · exact .inr (key _ (by unfold Ver.pC; omega) b hb)
theorem tz_byte (p : Int) : ∀ b ∈ tz p, b ≠ 32 ∧ b ≠ 124 := by
  intro b hb
  unfold tz at hb
  split at hb
  · rcases txt_byte _ b hb with rfl | h
    · decide
    · exact ⟨fun e => by subst e; exact absurd h.1 (by decide), fun e => by subst e; exact absurd h.2 (by decide)⟩
  · cases hb
theorem tz_len (p : Int) : (tz p).length ≤ 11 := by
  unfold tz; split
  · exact (txt_len _).2
  · simp
/-- A word at the head. -/
theorem gow_word (x : List UInt8) : ∀ (m : List UInt8) (b : Nat) (cur : List UInt8) (ws : List W), (∀ c ∈ x, c ≠ 32) → gow (x ++ m) b cur ws = gow m b (cur ++ x) ws := by
  induction x with
  | nil => intro m b cur ws _; simp
  | cons c x ih =>
    intro m b cur ws h
    rw [List.cons_append, gow, if_neg (h c (by simp)), ih _ _ _ _ fun d hd => h d (by simp [hd]), List.append_assoc]
    rfl
theorem gow_one (x : List UInt8) (b : Nat) (h : ∀ c ∈ x, c ≠ 32) (hx : x ≠ []) : (gow x b [] []).map Prod.fst = [x] ∧ (gow (x ++ [32]) b [] []).map Prod.fst = [x] := by
  constructor
  · have := gow_word x [] b [] [] h
    rw [List.append_nil] at this
    rw [this]
    simp [gow, push, hx]
  · rw [gow_word x [32] b [] [] h]
    simp [gow, push, hx]
theorem gow_two (x y : List UInt8) (b : Nat) (h : ∀ c ∈ x, c ≠ 32) (hx : x ≠ []) (h' : ∀ c ∈ y, c ≠ 32) (hy : y ≠ []) :
    (gow (x ++ 32 :: y) b [] []).map Prod.fst = [x, y] ∧ (gow (x ++ 32 :: y ++ [32]) b [] []).map Prod.fst = [x, y] := by
  constructor
  · rw [gow_word x _ b [] [] h]
    simp only [gow, push, if_true, List.nil_append, hx, if_false]
    have := gow_word y [] (b + x.length + 1) [] [(x, b)] h'
    rw [List.append_nil] at this
    rw [this]
    simp [gow, push, hy]
  · rw [List.append_assoc, gow_word x _ b [] [] h]
    simp only [gow, push, if_true, List.nil_append, hx, if_false, List.cons_append]
    rw [gow_word y [32] (b + x.length + 1) [] [(x, b)] h']
    simp [gow, push, hy]
theorem part_words (s : S) (b : Nat) : (gow (partL s) b [] []).map Prod.fst = partWords s ∧ (gow (partL s ++ [32]) b [] []).map Prod.fst = partWords s := by
  have h1 := fun c hc => (tz_byte s.1 c hc).1
  have h2 := fun c hc => (tz_byte s.2 c hc).1
  unfold partL partWords
  split
  · exact gow_one _ b (by intro c hc; rcases List.mem_cons.1 hc with rfl | hc; · decide
                          · exact h1 c hc) (by simp)
  · split
    · exact gow_one _ b (by intro c hc; rcases List.mem_cons.1 hc with rfl | hc; · decide
                            · exact h2 c hc) (by simp)
    · split
      · exact gow_one _ b (by intro c hc; simp only [List.mem_cons] at hc; rcases hc with rfl | rfl | hc; · decide
                              · decide
                              · exact h1 c hc) (by simp)
      · have := gow_two (62 :: 61 :: tz s.1) (60 :: tz s.2) b
          (by intro c hc; simp only [List.mem_cons] at hc; rcases hc with rfl | rfl | hc; · decide
              · decide
              · exact h1 c hc) (by simp)
          (by intro c hc; simp only [List.mem_cons] at hc; rcases hc with rfl | hc; · decide
              · exact h2 c hc) (by simp)
        simpa using this
theorem part_byte (s : S) : ∀ c ∈ partL s, c ≠ 124 := by
  have h1 := fun c hc => (tz_byte s.1 c hc).2
  have h2 := fun c hc => (tz_byte s.2 c hc).2
  intro c hc
  unfold partL at hc
  split at hc
  · rcases List.mem_cons.1 hc with rfl | hc
    · decide
    · exact h1 c hc
  · split at hc
    · rcases List.mem_cons.1 hc with rfl | hc
      · decide
      · exact h2 c hc
    · split at hc
      · simp only [List.mem_cons] at hc
        rcases hc with rfl | rfl | hc
        · decide
        · decide
        · exact h1 c hc
      · simp only [List.mem_cons, List.mem_append] at hc
        rcases hc with rfl | rfl | hc | rfl | rfl | hc
        · decide
        · decide
        · exact h1 c hc
        · decide
        · decide
        · exact h2 c hc
theorem part_len (s : S) : (partL s).length ≤ 26 := by
  have h1 := tz_len s.1
  have h2 := tz_len s.2
  unfold partL
  repeat' split
  all_goals simp only [List.length_cons, List.length_append] <;> omega
theorem join_len : ∀ l : List S, (joinL l).length ≤ 29 * l.length
  | [] => by simp [joinL]
  | [s] => by have := part_len s; simp [joinL]; omega
  | s :: t :: r => by
    have h1 := part_len s
    have h2 := join_len (t :: r)
    simp only [joinL, List.length_append, List.length_cons] at *
    omega
theorem join_words : ∀ (l : List S) (b : Nat), l ≠ [] → (go (joinL l) b [] []).map (fun q => q.1.map Prod.fst) = l.map partWords
  | [], _, h => absurd rfl h
  | [s], b, _ => by
    show (go (partL s) b [] []).map _ = _
    rw [go_last _ _ _ _ (part_byte s)]
    simp [(part_words s b).1]
  | s :: t :: r, b, _ => by
    have ih := join_words (t :: r)
    show (go (partL s ++ 32 :: 124 :: 32 :: joinL (t :: r)) b [] []).map _ = _
    have e : partL s ++ 32 :: 124 :: 32 :: joinL (t :: r) = (partL s ++ [32]) ++ 124 :: 32 :: joinL (t :: r) := by simp
    rw [e, go_piece _ _ _ _ _ (by intro c hc; rcases List.mem_append.1 hc with hc | hc; · exact part_byte s c hc
                                  · rw [List.mem_singleton.1 hc]; decide)]
    rw [List.map_cons, (part_words s b).2, go, if_neg (by decide), if_pos rfl]
    have e0 : ∀ k, push [] [] k = [] := fun _ => rfl
    rw [e0, ih _ (by simp)]
    rfl
theorem inter_top {s : S} (h0 : 0 ≤ s.1) (h1 : s.2 ≤ 1000000000) : inter (0, 1000000000) s = s := by
  unfold inter; refine Prod.ext ?_ ?_ <;> simp only <;> omega
theorem mean_cmp (f : Bool) {w : List UInt8} (h1 : w ≠ anyL) (h2 : w ≠ noneL) : mean f w = cmpI w := by
  unfold mean; simp [h1, h2]
theorem cmpG {g : List UInt8} (hg : g = [61] ∨ g = [62, 61] ∨ g = [62] ∨ g = [60, 61] ∨ g = [60] ∨ g = [94] ∨ g = [126]) {p : Int} (h0 : 0 ≤ p) (h1 : p < 1000000000) : cmpI (g ++ tz p) = ivOf g p.toNat := by
  rw [tz_in h0 h1]; exact (cmp_of hg (by omega)).1
theorem part_read (s : S) (h0 : 0 ≤ s.1) (h1 : s.1 < s.2) (h2 : s.2 ≤ 1000000000) (h3 : ¬ (s.1 = 0 ∧ s.2 = 1000000000)) : pieceT (partWords s) = some s := by
  have hn : ((s.1.toNat : Nat) : Int) = s.1 := by omega
  have c1 := cmpG (g := [61]) (.inl rfl) h0 (by omega : s.1 < 1000000000)
  have c2 := cmpG (g := [62, 61]) (.inr (.inl rfl)) h0 (by omega : s.1 < 1000000000)
  unfold partWords
  split
  · rename_i e
    simp only [pieceT, meetT, List.length_singleton, decide_true]
    rw [if_neg (by simp), mean_cmp _ (by simp [anyL]) (by simp [noneL]), show 61 :: tz s.1 = [61] ++ tz s.1 from rfl, c1]
    have : ivOf [61] s.1.toNat = some s := by simp only [ivOf, if_true, hn]; rw [← e]
    rw [this]
    simp only
    rw [inter_top h0 h2]
  · split
    · rename_i e1 e
      have c3 := cmpG (g := [60]) (by simp) (p := s.2) (by omega) (by omega)
      simp only [pieceT, meetT, List.length_singleton, decide_true]
      rw [if_neg (by simp), mean_cmp _ (by simp [anyL]) (by simp [noneL]), show 60 :: tz s.2 = [60] ++ tz s.2 from rfl, c3]
      have : ivOf [60] s.2.toNat = some s := by
        have : ((s.2.toNat : Nat) : Int) = s.2 := by omega
        simp [ivOf, this]; exact Prod.ext e.symm rfl
      rw [this]
      simp only
      rw [inter_top h0 h2]
    · split
      · rename_i e1 e2 e
        simp only [pieceT, meetT, List.length_singleton, decide_true]
        rw [if_neg (by simp), mean_cmp _ (by simp [anyL]) (by simp [noneL]), show 62 :: 61 :: tz s.1 = [62, 61] ++ tz s.1 from rfl, c2]
        have : ivOf [62, 61] s.1.toNat = some s := by simp [ivOf, hn]; exact Prod.ext rfl e.symm
        rw [this]
        simp only
        rw [inter_top h0 h2]
      · rename_i e1 e2 e
        have c3 := cmpG (g := [60]) (by simp) (p := s.2) (by omega) (by omega)
        simp only [pieceT, meetT]
        rw [if_neg (by simp), mean_cmp _ (by simp [anyL]) (by simp [noneL]), show 62 :: 61 :: tz s.1 = [62, 61] ++ tz s.1 from rfl, c2]
        have a1 : ivOf [62, 61] s.1.toNat = some (s.1, 1000000000) := by simp [ivOf, hn]
        rw [a1]
        simp only
        rw [mean_cmp _ (by simp [anyL]) (by simp [noneL]), show 60 :: tz s.2 = [60] ++ tz s.2 from rfl, c3]
        have a2 : ivOf [60] s.2.toNat = some (0, s.2) := by
          have : ((s.2.toNat : Nat) : Int) = s.2 := by omega
          simp [ivOf, this]
        rw [a2]
        simp only [inter]
        congr 1
        refine Prod.ext ?_ ?_ <;> simp only <;> omega
theorem parts_read : ∀ (l : List S) (acc : List S), (∀ s ∈ l, 0 ≤ s.1 ∧ s.1 < s.2 ∧ s.2 ≤ 1000000000 ∧ ¬ (s.1 = 0 ∧ s.2 = 1000000000)) → readT acc (l.map partWords) = some (acc ++ l)
  | [], acc, _ => by simp [readT]
  | s :: t, acc, h => by
    obtain ⟨a, b, c, d⟩ := h s (by simp)
    rw [List.map_cons, readT, part_read s a b c d]
    simp only
    rw [parts_read t _ fun x hx => h x (by simp [hx])]
    simp
theorem all_alone {l : List S} (h : isSet (-1) l = true) (hm : ((0, 1000000000) : S) ∈ l) : l = [(0, 1000000000)] := by
  refine unique _ _ (-1) h (by decide) fun p h0 h1 => ?_
  have : has l p = true := (has_iff l p).2 ⟨_, hm, by simp only; omega, by simp only; omega⟩
  rw [this, has_one]
  symm
  simp
  omega
theorem readI_of {s : List UInt8} {l : List S} (h : readT [] ((cutL s).map fun q => q.1.map Prod.fst) = some l) : readI [] (cutL s) = .ok l := by
  rw [← read_T] at h
  exact toOption_some.1 h
theorem told_of {s : List UInt8} {l : List S} (hs : s.length ≤ 400) (h : readT [] ((cutL s).map fun q => q.1.map Prod.fst) = some l) : told s = if 6 < (setOf l).length then .long else .ok (setOf l) := by
  unfold told
  rw [if_neg (by omega), readI_of h]
theorem told_none : told noneL = .ok [] := by
  have h : readT [] ((cutL noneL).map fun q => q.1.map Prod.fst) = some [(0, 0)] := by
    have : (cutL noneL).map (fun q => q.1.map Prod.fst) = [[noneL]] := by decide
    rw [this]
    simp [readT, pieceT, meetT, mean, anyL, noneL, inter]
    decide
  rw [told_of (by decide) h, setOf_none]
  rfl
theorem told_any : told anyL = .ok [(0, 1000000000)] := by
  have h : readT [] ((cutL anyL).map fun q => q.1.map Prod.fst) = some [(0, 1000000000)] := by
    have : (cutL anyL).map (fun q => q.1.map Prod.fst) = [[anyL]] := by decide
    rw [this]
    simp [readT, pieceT, meetT, mean, anyL, inter]
  rw [told_of (by decide) h, setOf_all]
  rfl
/-- What is written of a set is read as it. -/
theorem told_show {l : List S} (h : isSet (-1) l = true) (hn : l.length ≤ 6) : told (showL l) = .ok l := by
  unfold showL
  rw [if_neg (by rw [h]; simp)]
  split
  · rename_i e; rw [e]; exact told_none
  · split
    · rename_i e; rw [e]; exact told_any
    · rename_i e1 e2
      have hr : readT [] ((cutL (joinL l)).map fun q => q.1.map Prod.fst) = some l := by
        unfold cutL
        rw [join_words l 0 e1, parts_read]
        · rfl
        · intro s hs
          have := mem_range h s hs
          refine ⟨by omega, this.2.1, this.2.2.1, fun hh => e2 (all_alone h ?_)⟩
          rw [← hh.1, ← hh.2]; exact hs
      have hl := join_len l
      rw [told_of (by omega) hr, setOf_self h, if_neg (by omega)]
theorem show_len (l : List S) : (showL l).length ≤ 29 * l.length + 4 := by
  have := join_len l
  unfold showL
  repeat' split
  all_goals simp [noneL, anyL] <;> omega
/-! Two rules. -/
theorem told_ok {s : List UInt8} {a : List S} (h : told s = .ok a) : s.length ≤ 400 ∧ a.length ≤ 6 ∧ ∃ l, readT [] ((cutL s).map fun q => q.1.map Prod.fst) = some l ∧ a = setOf l ∧ readI [] (cutL s) = .ok l := by
  unfold told at h
  split at h
  · cases h
  · rename_i hs
    split at h
    · cases h
    · rename_i l hl
      split at h
      · cases h
      · rename_i hn
        injection h with h
        subst h
        exact ⟨by omega, by omega, l, by rw [← read_T, hl]; rfl, rfl, hl⟩
theorem told_mark {s t : List UInt8} {a b : List S} (hs : told s = .ok a) (ht : told t = .ok b) (hl : s.length + t.length ≤ 390) :
    told (s ++ 124 :: t) = if 6 < (nf fun p => has a p || has b p).length then .long else .ok (nf fun p => has a p || has b p) := by
  obtain ⟨_, _, l, h1, rfl, _⟩ := told_ok hs
  obtain ⟨_, _, m, h2, rfl, _⟩ := told_ok ht
  have h : readT [] ((cutL (s ++ 124 :: t)).map fun q => q.1.map Prod.fst) = some (l ++ m) := by
    unfold cutL at *
    rw [go_mark, List.map_append, readT_append, h1, go_texts t _ 0 [] [] [] rfl]
    simp only [Option.bind_some]
    have := readT_front ((go t 0 [] []).map fun q => q.1.map Prod.fst) l []
    rw [List.append_nil] at this
    rw [this, h2]
    rfl
  rw [told_of (by simp; omega) h, setOf_append]
/-- Neither a mark nor a letter. -/
def plainB (b : UInt8) : Bool := !(b == 124 || (decide (97 ≤ b.toNat) && decide (b.toNat ≤ 122)))
def plainL (l : List UInt8) : Bool := l.all plainB
theorem gow_bytes (x : List UInt8) (P : UInt8 → Prop) : ∀ (b : Nat) (cur : List UInt8) (ws : List W), (∀ c ∈ x, P c) → (∀ c ∈ cur, P c) → (∀ q ∈ ws, ∀ c ∈ q.1, P c) → ∀ q ∈ gow x b cur ws, ∀ c ∈ q.1, P c := by
  have hp : ∀ (b : Nat) (cur : List UInt8) (ws : List W), (∀ c ∈ cur, P c) → (∀ q ∈ ws, ∀ c ∈ q.1, P c) → ∀ q ∈ push cur ws b, ∀ c ∈ q.1, P c := by
    intro b cur ws h1 h2 q hq
    unfold push at hq
    split at hq
    · exact h2 q hq
    · rcases List.mem_append.1 hq with hq | hq
      · exact h2 q hq
      · rw [List.mem_singleton.1 hq]; exact h1
  induction x with
  | nil => intro b cur ws _ h1 h2; exact hp b cur ws h1 h2
  | cons c x ih =>
    intro b cur ws h h1 h2
    rw [gow]
    split
    · exact ih _ _ _ (fun d hd => h d (by simp [hd])) (fun d hd => by cases hd) (hp b cur ws h1 h2)
    · exact ih _ _ _ (fun d hd => h d (by simp [hd])) (fun d hd => by
        rcases List.mem_append.1 hd with hd | hd
        · exact h1 d hd
        · rw [List.mem_singleton.1 hd]; exact h c (by simp)) h2
theorem plain_mean {w : List UInt8} (h : ∀ c ∈ w, plainB c = true) (f : Bool) : mean f w = cmpI w := by
  refine mean_cmp f (fun e => ?_) (fun e => ?_)
  · have := h 97 (by rw [e]; decide); revert this; decide
  · have := h 110 (by rw [e]; decide); revert this; decide
theorem meetT_alone {ws : List (List UInt8)} (h : ∀ w ∈ ws, ∀ c ∈ w, plainB c = true) (f g : Bool) : ∀ a, meetT f a ws = meetT g a ws := by
  induction ws with
  | nil => intro a; rfl
  | cons w r ih =>
    intro a
    simp only [meetT]
    rw [plain_mean (h w (by simp)) f, plain_mean (h w (by simp)) g]
    cases cmpI w with
    | none => rfl
    | some i => exact ih (fun w hw => h w (by simp [hw])) _
theorem inter_assoc (a b c : S) : inter (inter a b) c = inter a (inter b c) := by
  unfold inter; refine Prod.ext ?_ ?_ <;> simp only <;> omega
theorem meetT_front (f : Bool) (ws : List (List UInt8)) : ∀ a b, meetT f (inter a b) ws = (meetT f b ws).map (inter a) := by
  induction ws with
  | nil => intro a b; rfl
  | cons w r ih =>
    intro a b
    simp only [meetT]
    cases mean f w with
    | none => rfl
    | some i => simp only; rw [inter_assoc, ih]
theorem meetT_append (f : Bool) (ws vs : List (List UInt8)) : ∀ a, meetT f a (ws ++ vs) = (meetT f a ws).bind fun b => meetT f b vs := by
  induction ws with
  | nil => intro a; rfl
  | cons w r ih =>
    intro a
    simp only [List.cons_append, meetT]
    cases mean f w with
    | none => rfl
    | some i => exact ih _
theorem told_plain {s : List UInt8} {a : List S} (h : told s = .ok a) (hp : plainL s = true) : ∃ i, a = setOf [i] ∧ ∀ f, meetT f (0, 1000000000) ((gow s 0 [] []).map Prod.fst) = some i ∧ gow s 0 [] [] ≠ [] := by
  have hp1 : ∀ c ∈ s, plainB c = true := fun c hc => List.all_eq_true.1 hp c hc
  have hp2 : ∀ c ∈ s, c ≠ 124 := fun c hc e => by have := hp1 c hc; rw [e] at this; revert this; decide
  obtain ⟨_, _, l, h1, rfl, _⟩ := told_ok h
  unfold cutL at h1
  rw [go_last _ _ _ _ hp2] at h1
  simp only [List.map_cons, List.map_nil, readT, List.nil_append] at h1
  cases hq : pieceT ((gow s 0 [] []).map Prod.fst) with
  | none => rw [hq] at h1; cases h1
  | some i =>
    rw [hq] at h1
    injection h1 with h1
    subst h1
    have hb := gow_bytes s (fun c => plainB c = true) 0 [] [] hp1 (fun c hc => by cases hc) (fun q hq => by cases hq)
    have hb' : ∀ w ∈ (gow s 0 [] []).map Prod.fst, ∀ c ∈ w, plainB c = true := fun w hw c hc => by
      obtain ⟨q, hq, rfl⟩ := List.mem_map.1 hw
      exact hb q hq c hc
    unfold pieceT at hq
    split at hq
    · cases hq
    · rename_i hne
      exact ⟨i, rfl, fun f => ⟨by rw [← hq]; exact meetT_alone hb' _ _ _, by simpa using hne⟩⟩
theorem told_blank {s t : List UInt8} {a b : List S} (hs : told s = .ok a) (ht : told t = .ok b) (hl : s.length + t.length ≤ 390) (ps : plainL s = true) (pt : plainL t = true) :
    told (s ++ 32 :: t) = .ok (nf fun p => has a p && has b p) := by
  obtain ⟨i, rfl, hi⟩ := told_plain hs ps
  obtain ⟨j, rfl, hj⟩ := told_plain ht pt
  have hp1 : ∀ (x : List UInt8), plainL x = true → ∀ c ∈ x, c ≠ 124 := fun x hx c hc e => by have := List.all_eq_true.1 hx c hc; rw [e] at this; revert this; decide
  have hst : ∀ c ∈ s ++ 32 :: t, c ≠ 124 := by
    intro c hc
    simp only [List.mem_append, List.mem_cons] at hc
    rcases hc with hc | rfl | hc
    · exact hp1 s ps c hc
    · decide
    · exact hp1 t pt c hc
  have hw : (gow (s ++ 32 :: t) 0 [] []).map Prod.fst = (gow s 0 [] []).map Prod.fst ++ (gow t 0 [] []).map Prod.fst := by
    rw [gow_blank]
    have := gow_front t (0 + ([] : List UInt8).length + s.length + 1) [] (gow s 0 [] []) []
    rw [List.append_nil] at this
    rw [this, List.map_append, gow_texts t _ 0 [] [] [] rfl]
  have hr : readT [] ((cutL (s ++ 32 :: t)).map fun q => q.1.map Prod.fst) = some [inter i j] := by
    unfold cutL
    rw [go_last _ _ _ _ hst]
    simp only [List.map_cons, List.map_nil, readT, List.nil_append, pieceT]
    rw [hw, if_neg (by simp [(hi true).2]), meetT_append, (hi _).1]
    simp only [Option.bind_some]
    have hi0 : inter i (0, 1000000000) = i := by
      have := meetT_front true ((gow s 0 [] []).map Prod.fst) (0, 1000000000) (0, 1000000000)
      rw [inter_top (by simp) (by simp), (hi _).1] at this
      simp only [Option.map_some, Option.some.injEq] at this
      rw [this]
      unfold inter; refine Prod.ext ?_ ?_ <;> simp only <;> omega
    have := meetT_front (decide (((gow s 0 [] []).map Prod.fst ++ (gow t 0 [] []).map Prod.fst).length = 1)) ((gow t 0 [] []).map Prod.fst) i (0, 1000000000)
    rw [hi0] at this
    rw [this, (hj _).1]
    rfl
  have h1 := setOf_len [inter i j]
  rw [List.length_singleton] at h1
  rw [told_of (by simp; omega) hr, if_neg (by omega), setOf_inter]
end Go.Proofs.YtmcpdcfeappokaaGreatDoor.Rule
