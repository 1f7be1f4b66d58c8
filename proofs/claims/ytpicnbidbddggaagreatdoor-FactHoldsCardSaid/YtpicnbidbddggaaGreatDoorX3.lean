/-
  Some texts of this claim, one behind the other: VerMath, RuleMath, RuleShowM. What each proves, and its condition, stands at its head.
-/
import Derived.Test.YtpicnbidbddggaaGreatDoorX1
import Derived.Test.YtpicnbidbddggaaGreatDoorX2
import Derived.Lib.ItoaNum
/-
  Plain mathematics of versions: places and parts, decimal texts, and how a text is gone through. No program.
-/
namespace Go.Proofs.YtpicnbidbddggaaGreatDoor.Ver
open Go.RowKit Go.Lib Go.Proofs.YtpicnbidbddggaaGreatDoor.Label
set_option linter.unusedVariables false
def pA (p : Nat) : Nat := p / 1000000 % 1000
def pB (p : Nat) : Nat := p / 1000 % 1000
def pC (p : Nat) : Nat := p % 1000
def three (x y z : Int) : Array Value := #[.int .i64 x, .int .i64 y, .int .i64 z]
def partsOf (p : Nat) : Array Value := three (pA p : Nat) (pB p : Nat) (pC p : Nat)
def Fits (x y z : Int) : Prop := (0 ≤ x ∧ x ≤ 999) ∧ (0 ≤ y ∧ y ≤ 999) ∧ (0 ≤ z ∧ z ≤ 999)
instance (x y z : Int) : Decidable (Fits x y z) := by unfold Fits; infer_instance
def placeN (x y z : Int) : Nat := (x * 1000000 + y * 1000 + z).toNat
theorem place_lt {x y z : Int} (h : Fits x y z) : placeN x y z < 1000000000 := by unfold Fits at h; unfold placeN; omega
theorem parts_fit (p : Nat) : Fits (pA p : Nat) (pB p : Nat) (pC p : Nat) := by unfold Fits pA pB pC; omega
theorem parts_place {p : Nat} (h : p < 1000000000) : placeN (pA p : Nat) (pB p : Nat) (pC p : Nat) = p := by unfold pA pB pC placeN; omega
def txt (p : Nat) : List UInt8 := decDigits (pA p) ++ (46 :: (decDigits (pB p) ++ (46 :: decDigits (pC p))))
theorem dec3 {n : Nat} (h1 : ¬ n < 100) (h2 : n < 1000) : decDigits n = [UInt8.ofNat (48 + n / 100), UInt8.ofNat (48 + n / 10 % 10), UInt8.ofNat (48 + n % 10)] := by
  rw [decDigits, dif_neg (by omega), decDigits_two (by omega) (by omega)]
  simp only [List.cons_append, List.nil_append]
  rw [show n / 10 / 10 = n / 100 by omega]
theorem dec_cases {n : Nat} (h : n < 1000) : ∃ l : List Nat, decDigits n = l.map (fun d => UInt8.ofNat (48 + d)) ∧ (∀ d ∈ l, d < 10) ∧ 1 ≤ l.length ∧ l.length ≤ 3 ∧ l.foldl (fun a d => a * 10 + d) 0 = n := by
  by_cases h1 : n < 10
  · exact ⟨[n], by rw [decDigits_one h1]; rfl, by simpa using h1, by simp, by simp, by simp⟩
  · by_cases h2 : n < 100
    · exact ⟨[n / 10, n % 10], by rw [decDigits_two h1 h2]; rfl, by intro d hd; simp at hd; omega, by simp, by simp, by simp; omega⟩
    · exact ⟨[n / 100, n / 10 % 10, n % 10], by rw [dec3 h2 h]; rfl, by intro d hd; simp at hd; omega, by simp, by simp, by simp; omega⟩
theorem dec_len {n : Nat} (h : n < 1000) : 1 ≤ (decDigits n).length ∧ (decDigits n).length ≤ 3 := by
  obtain ⟨l, h1, _, h2, h3, _⟩ := dec_cases h
  rw [h1, List.length_map]; exact ⟨h2, h3⟩
theorem txt_len (p : Nat) : 5 ≤ (txt p).length ∧ (txt p).length ≤ 11 := by
  have a := dec_len (n := pA p) (by unfold pA; omega)
  have b := dec_len (n := pB p) (by unfold pB; omega)
  have c := dec_len (n := pC p) (by unfold pC; omega)
  unfold txt
  simp only [List.length_append, List.length_cons]
  omega
structure St where
  at_ : Nat
  x : Int
  y : Int
  z : Int
def digit (a : Int) (r : Nat) : Int := wrap64 (wrap64 (a * 10) + ((r : Int) - 48))
def step (s : St) (r : Nat) : Option St :=
  if r = 46 then (if s.at_ = 2 then none else some ⟨s.at_ + 1, s.x, s.y, s.z⟩)
  else if s.at_ = 0 then some ⟨0, digit s.x r, s.y, s.z⟩ else if s.at_ = 1 then some ⟨1, s.x, digit s.y r, s.z⟩ else some ⟨2, s.x, s.y, digit s.z r⟩
def go : Option St → List Nat → Option St
  | none, _ => none
  | some s, [] => some s
  | some s, r :: l => go (step s r) l
theorem go_none (l : List Nat) : go none l = none := by cases l <;> rfl
theorem go_append : ∀ (l m : List Nat) (s : Option St), go s (l ++ m) = go (go s l) m
  | [], m, none => by rw [go_none, go_none, go_none]
  | [], m, some s => rfl
  | r :: l, m, none => by rw [go_none, go_none, go_none]
  | r :: l, m, some s => by show go (step s r) (l ++ m) = go (go (step s r) l) m; exact go_append l m _
def say : Int → List Nat → Int
  | a, [] => a
  | a, d :: l => say (a * 10 + (d : Int)) l
theorem say_nat (a : Nat) (l : List Nat) : say (a : Int) l = ((l.foldl (fun (a d : Nat) => a * 10 + d) a : Nat) : Int) := by
  induction l generalizing a with
  | nil => rfl
  | cons d l ih =>
    show say ((a : Int) * 10 + (d : Int)) l = ((l.foldl (fun (a d : Nat) => a * 10 + d) (a * 10 + d) : Nat) : Int)
    rw [← ih]; congr 1
theorem w64 {n : Int} (h0 : 0 ≤ n) (h1 : n < 9223372036854775808) : wrap64 n = n := by unfold wrap64; omega
theorem digit_say {a : Int} {d : Nat} (h0 : 0 ≤ a) (h1 : a ≤ 100000) (hd : d < 10) : digit a (48 + d) = a * 10 + (d : Int) := by
  unfold digit
  rw [w64 (n := a * 10) (by omega) (by omega), w64 (by omega) (by omega)]; omega
theorem go_digits (s : St) (l : List Nat) (a : Int) (n : Nat) (hs : s.at_ < 3) (h0 : 0 ≤ a) (ha : a + 1 ≤ 10 ^ n) (hn : n + l.length ≤ 5) (hd : ∀ d ∈ l, d < 10)
    (he : (if s.at_ = 0 then s.x else if s.at_ = 1 then s.y else s.z) = a) :
    go (some s) (l.map (48 + ·)) = some (if s.at_ = 0 then ⟨0, say a l, s.y, s.z⟩ else if s.at_ = 1 then ⟨1, s.x, say a l, s.z⟩ else ⟨2, s.x, s.y, say a l⟩) := by
  induction l generalizing s a n with
  | nil =>
    obtain ⟨k, x, y, z⟩ := s
    simp only at hs he ⊢
    subst he
    have hk : k = 0 ∨ k = 1 ∨ k = 2 := by omega
    rcases hk with rfl | rfl | rfl <;> simp [go, say]
  | cons d l ih =>
    have hd0 := hd d (by simp)
    have h5 : a ≤ 100000 := by
      have : (10 : Int) ^ n ≤ 10 ^ 5 := by
        have := Nat.pow_le_pow_right (n := 10) (by omega) (show n ≤ 5 by simp at hn; omega)
        exact_mod_cast this
      omega
    have hg := digit_say h0 h5 hd0
    have hp : a * 10 + (d : Int) + 1 ≤ 10 ^ (n + 1) := by rw [Int.pow_succ]; omega
    have hne : ¬ 48 + d = 46 := by omega
    obtain ⟨k, x, y, z⟩ := s
    simp only at hs he
    have hk : k = 0 ∨ k = 1 ∨ k = 2 := by omega
    rw [List.map_cons]
    rcases hk with rfl | rfl | rfl
    · simp only [if_true] at he
      subst he
      show go (step ⟨0, x, y, z⟩ (48 + d)) _ = _
      rw [show step ⟨0, x, y, z⟩ (48 + d) = some ⟨0, x * 10 + (d : Int), y, z⟩ by simp [step, hne, hg]]
      exact ih ⟨0, x * 10 + (d : Int), y, z⟩ _ (n + 1) (by simp) (by omega) hp (by simp at hn; omega) (fun e he => hd e (by simp [he])) rfl
    · simp at he
      subst he
      show go (step ⟨1, x, y, z⟩ (48 + d)) _ = _
      rw [show step ⟨1, x, y, z⟩ (48 + d) = some ⟨1, x, y * 10 + (d : Int), z⟩ by simp [step, hne, hg]]
      exact ih ⟨1, x, y * 10 + (d : Int), z⟩ _ (n + 1) (by simp) (by omega) hp (by simp at hn; omega) (fun e he => hd e (by simp [he])) rfl
    · simp at he
      subst he
      show go (step ⟨2, x, y, z⟩ (48 + d)) _ = _
      rw [show step ⟨2, x, y, z⟩ (48 + d) = some ⟨2, x, y, z * 10 + (d : Int)⟩ by simp [step, hne, hg]]
      exact ih ⟨2, x, y, z * 10 + (d : Int)⟩ _ (n + 1) (by simp) (by omega) hp (by simp at hn; omega) (fun e he => hd e (by simp [he])) rfl
theorem map_digits (l : List Nat) (h : ∀ d ∈ l, d < 10) : (l.map (fun d => UInt8.ofNat (48 + d))).map UInt8.toNat = l.map (48 + ·) := by
  rw [List.map_map]
  refine List.map_congr_left fun d hd => ?_
  have := h d hd
  simp only [Function.comp, UInt8.toNat_ofNat']
  omega
theorem dec_runes {n : Nat} (h : n < 1000) : ∃ l : List Nat, (decDigits n).map UInt8.toNat = l.map (48 + ·) ∧ (∀ d ∈ l, d < 10) ∧ l.length ≤ 3 ∧ say 0 l = (n : Int) := by
  obtain ⟨l, h1, h2, _, h3, h4⟩ := dec_cases h
  exact ⟨l, by rw [h1, map_digits l h2], h2, h3, by have := say_nat 0 l; rw [h4] at this; exact this⟩
theorem go_txt (p : Nat) : go (some ⟨0, 0, 0, 0⟩) ((txt p).map UInt8.toNat) = some ⟨2, (pA p : Nat), (pB p : Nat), (pC p : Nat)⟩ := by
  obtain ⟨la, a1, a2, a3, a4⟩ := dec_runes (n := pA p) (by unfold pA; omega)
  obtain ⟨lb, b1, b2, b3, b4⟩ := dec_runes (n := pB p) (by unfold pB; omega)
  obtain ⟨lc, c1, c2, c3, c4⟩ := dec_runes (n := pC p) (by unfold pC; omega)
  unfold txt
  rw [List.map_append, List.map_cons, List.map_append, List.map_cons, a1, b1, c1, go_append,
    go_digits ⟨0, 0, 0, 0⟩ la 0 0 (by simp) (by omega) (by simp) (by omega) a2 rfl, a4]
  show go (step ⟨0, (pA p : Nat), 0, 0⟩ 46) _ = _
  rw [show step ⟨0, (pA p : Nat), 0, 0⟩ 46 = some ⟨1, (pA p : Nat), 0, 0⟩ from rfl, go_append,
    go_digits ⟨1, (pA p : Nat), 0, 0⟩ lb 0 0 (by simp) (by omega) (by simp) (by omega) b2 rfl, b4]
  show go (step ⟨1, (pA p : Nat), (pB p : Nat), 0⟩ 46) _ = _
  rw [show step ⟨1, (pA p : Nat), (pB p : Nat), 0⟩ 46 = some ⟨2, (pA p : Nat), (pB p : Nat), 0⟩ from rfl,
    go_digits ⟨2, (pA p : Nat), (pB p : Nat), 0⟩ lc 0 0 (by simp) (by omega) (by simp) (by omega) c2 rfl, c4]
  rfl
theorem byt_str (l : List UInt8) (i : Nat) (h : i < l.length) : byt (str l) i = (l[i]).toNat := by
  have h' : i < (str l).size := by rw [str_size]; exact h
  rw [← byt_at (str l) i h']; rfl
theorem dec_ascii (l : List UInt8) (i : Nat) (h : i < l.length) (ha : (l[i]).toNat < 128) : rn (str l) i = (l[i]).toNat ∧ wd (str l) i = 1 := by
  have hb := byt_str l i h
  unfold rn wd
  rw [dec_eq, hb, str_size]
  unfold decodeN
  rw [if_pos ha]
  exact ⟨rfl, rfl⟩
theorem runes_ascii (l : List UInt8) (ha : ∀ b ∈ l, b.toNat < 128) (i : Nat) : runes (str l) i = (l.drop i).map UInt8.toNat := by
  induction hk : l.length - i using Nat.strongRecOn generalizing i with
  | _ k ih =>
    by_cases h : i < l.length
    · obtain ⟨h1, h2⟩ := dec_ascii l i h (ha _ (List.getElem_mem h))
      rw [runes_step _ _ (by rw [str_size]; exact h), h1, h2, ih (l.length - (i + 1)) (by omega) (i + 1) rfl, List.drop_eq_getElem_cons h]
      rfl
    · rw [runes_end _ _ (by rw [str_size]; exact h), List.drop_of_length_le (by omega)]; rfl
theorem dec_ascii_all {n : Nat} (h : n < 1000) : ∀ b ∈ decDigits n, b.toNat < 128 := by
  obtain ⟨l, h1, h2, _⟩ := dec_cases h
  intro b hb
  rw [h1, List.mem_map] at hb
  obtain ⟨d, hd, rfl⟩ := hb
  have := h2 d hd
  rw [UInt8.toNat_ofNat']; omega
theorem txt_ascii (p : Nat) : ∀ b ∈ txt p, b.toNat < 128 := by
  intro b hb
  unfold txt at hb
  simp only [List.mem_append, List.mem_cons] at hb
  rcases hb with hb | rfl | hb | rfl | hb
  · exact dec_ascii_all (by unfold pA; omega) b hb
  · decide
  · exact dec_ascii_all (by unfold pB; omega) b hb
  · decide
  · exact dec_ascii_all (by unfold pC; omega) b hb
def readR (s : ByteArray) : Option Nat :=
  match go (some ⟨0, 0, 0, 0⟩) (runes s 0) with
  | none => none
  | some t => if Fits t.x t.y t.z ∧ str (txt (placeN t.x t.y t.z)) = s then some (placeN t.x t.y t.z) else none
theorem read_txt {p : Nat} (h : p < 1000000000) : readR (str (txt p)) = some p := by
  unfold readR
  rw [runes_ascii _ (txt_ascii p) 0, List.drop_zero, go_txt]
  simp only
  rw [parts_place h, if_pos ⟨parts_fit p, rfl⟩]
theorem read_some {s : ByteArray} {p : Nat} (h : readR s = some p) : s = str (txt p) ∧ p < 1000000000 := by
  unfold readR at h
  split at h
  · cases h
  · split at h
    · rename_i hc
      injection h with h
      subst h
      exact ⟨hc.2.symm, place_lt hc.1⟩
    · cases h
def rstep (q : Int × Int) (b : UInt8) : Int × Int :=
  if b.toNat = 46 then (wrap64 (wrap64 (q.1 + q.2) * 1000), 0) else (q.1, wrap64 (wrap64 (q.2 * 10) + ((b.toNat % 48 % 10 : Nat) : Int)))
def rgo (q : Int × Int) (l : List UInt8) : Int × Int := l.foldl rstep q
theorem rgo_digits (l : List Nat) (q a : Int) (n : Nat) (h0 : 0 ≤ a) (ha : a + 1 ≤ 10 ^ n) (hn : n + l.length ≤ 5) (hd : ∀ d ∈ l, d < 10) :
    rgo (q, a) (l.map (fun d => UInt8.ofNat (48 + d))) = (q, say a l) := by
  induction l generalizing a n with
  | nil => rfl
  | cons d l ih =>
    have hd0 := hd d (by simp)
    have h5 : a ≤ 100000 := by
      have : (10 : Int) ^ n ≤ 10 ^ 5 := by
        have := Nat.pow_le_pow_right (n := 10) (by omega) (show n ≤ 5 by simp at hn; omega)
        exact_mod_cast this
      omega
    have hb : (UInt8.ofNat (48 + d)).toNat = 48 + d := by rw [UInt8.toNat_ofNat']; omega
    have hs : rstep (q, a) (UInt8.ofNat (48 + d)) = (q, a * 10 + (d : Int)) := by
      unfold rstep
      rw [hb, if_neg (by omega), w64 (n := a * 10) (by omega) (by omega), show (48 + d) % 48 % 10 = d by omega, w64 (by omega) (by omega)]
    show rgo (rstep (q, a) (UInt8.ofNat (48 + d))) _ = _
    rw [hs]
    exact ih _ (n + 1) (by omega) (by rw [Int.pow_succ]; omega) (by simp at hn; omega) (fun e he => hd e (by simp [he]))
theorem rgo_append (q : Int × Int) (l m : List UInt8) : rgo q (l ++ m) = rgo (rgo q l) m := List.foldl_append
theorem rgo_dec {n : Nat} (h : n < 1000) (q : Int) : rgo (q, 0) (decDigits n) = (q, (n : Int)) := by
  obtain ⟨l, h1, h2, _, h3, h4⟩ := dec_cases h
  rw [h1, rgo_digits l q 0 0 (by omega) (by simp) (by omega) h2]
  have := say_nat 0 l
  rw [h4] at this
  exact congrArg (Prod.mk q) this
theorem rgo_dot (q a : Int) (l : List UInt8) (h0 : 0 ≤ q + a) (h1 : q + a < 1000000000000) : rgo (q, a) (46 :: l) = rgo ((q + a) * 1000, 0) l := by
  show rgo (rstep (q, a) 46) l = _
  unfold rstep
  rw [if_pos (show UInt8.toNat 46 = 46 from rfl), w64 (n := q + a) (by omega) (by omega), w64 (by omega) (by omega)]
theorem rgo_txt {p : Nat} (h : p < 1000000000) : (rgo (0, 0) (txt p)).1 + (rgo (0, 0) (txt p)).2 = (p : Int) := by
  have ha : pA p < 1000 := by unfold pA; omega
  have hb : pB p < 1000 := by unfold pB; omega
  have hc : pC p < 1000 := by unfold pC; omega
  unfold txt
  rw [rgo_append, rgo_dec ha, rgo_dot _ _ _ (by omega) (by omega), rgo_append, rgo_dec hb, rgo_dot _ _ _ (by omega) (by omega), rgo_dec hc]
  unfold pA pB pC
  omega
def rreadR (s : ByteArray) : Option Nat :=
  let q := rgo (0, 0) s.data.toList
  let v := wrap64 (q.1 + q.2)
  if s.size ≤ 11 ∧ (0 ≤ v ∧ v < 1000000000) ∧ str (txt v.toNat) = s then some v.toNat else none
theorem rread_txt {p : Nat} (h : p < 1000000000) : rreadR (str (txt p)) = some p := by
  have hd : (str (txt p)).data.toList = txt p := rfl
  have hl := txt_len p
  unfold rreadR
  simp only [hd, rgo_txt h]
  rw [w64 (by omega) (by omega), if_pos ⟨by rw [str_size]; omega, ⟨by omega, by omega⟩, by rw [Int.toNat_natCast]⟩, Int.toNat_natCast]
theorem rread_some {s : ByteArray} {p : Nat} (h : rreadR s = some p) : s = str (txt p) ∧ p < 1000000000 := by
  unfold rreadR at h
  simp only at h
  split at h
  · rename_i hc
    injection h with h
    subst h
    exact ⟨hc.2.2.symm, by omega⟩
  · cases h
theorem read_same (s : ByteArray) : readR s = rreadR s := by
  cases h : readR s with
  | some p =>
    obtain ⟨rfl, hp⟩ := read_some h
    exact (rread_txt hp).symm
  | none =>
    cases h' : rreadR s with
    | none => rfl
    | some p =>
      obtain ⟨rfl, hp⟩ := rread_some h'
      rw [read_txt hp] at h
      cases h
def optV : Option Nat → Int
  | some p => (p : Int)
  | none => 0
def unitN (k : Nat) : Nat := if k = 0 then 1000000 else if k = 1 then 1000 else 1
def afterN (p k : Nat) : Nat := (p / unitN k + 1) * unitN k
end Go.Proofs.YtpicnbidbddggaaGreatDoor.Ver
/-
  Plain mathematics of rules: words and pieces of a text, what a comparison has as an interval, what a text is read as. No program.
-/
namespace Go.Proofs.YtpicnbidbddggaaGreatDoor.Rule
open Go.RowKit Go.Lib Go.Proofs.YtpicnbidbddggaaGreatDoor.Span
open Go.Proofs.YtpicnbidbddggaaGreatDoor.Ver (txt readR rreadR afterN read_txt read_some rread_txt rread_some read_same txt_len)
set_option linter.unusedVariables false
def sg (b : UInt8) : Bool := b == 61 || b == 62 || b == 60 || b == 94 || b == 126
def topI : Int := 1000000000
def ivOf (g : List UInt8) (p : Nat) : Option S :=
  if g = [61] then some ((p : Int), (p : Int) + 1)
  else if g = [62, 61] then some ((p : Int), 1000000000)
  else if g = [62] then some ((p : Int) + 1, 1000000000)
  else if g = [60, 61] then some (0, (p : Int) + 1)
  else if g = [60] then some (0, (p : Int))
  else if g = [94] then some ((p : Int), (afterN p (if p < 1000000 then 1 else 0) : Nat))
  else if g = [126] then some ((p : Int), (afterN p 1 : Nat))
  else none
def cmpI (w : List UInt8) : Option S :=
  match readR (str (w.dropWhile sg)) with
  | none => none
  | some p => ivOf (w.takeWhile sg) p
def sgn : List UInt8 → Nat
  | [] => 0
  | [a] => if sg a then 1 else 0
  | a :: b :: _ => if b = 61 ∧ (a = 62 ∨ a = 60) then 2 else if sg a then 1 else 0
def rcmpI (w : List UInt8) : Option S :=
  match rreadR (str (w.drop (sgn w))) with
  | none => none
  | some p => if sgn w = 0 then none else ivOf (w.take (sgn w)) p
abbrev W := List UInt8 × Nat
abbrev Pc := List W × Nat
def push (cur : List UInt8) (ws : List W) (b : Nat) : List W := if cur = [] then ws else ws ++ [(cur, b)]
def go : List UInt8 → Nat → List UInt8 → List W → List Pc
  | [], b, cur, ws => [(push cur ws b, b + cur.length)]
  | c :: l, b, cur, ws =>
    if c = 124 then (push cur ws b, b + cur.length) :: go l (b + cur.length + 1) [] []
    else if c = 32 then go l (b + cur.length + 1) [] (push cur ws b)
    else go l b (cur ++ [c]) ws
def gow : List UInt8 → Nat → List UInt8 → List W → List W
  | [], b, cur, ws => push cur ws b
  | c :: l, b, cur, ws => if c = 32 then gow l (b + cur.length + 1) [] (push cur ws b) else gow l b (cur ++ [c]) ws
def inter (a b : S) : S := (Max.max a.1 b.1, Min.min a.2 b.2)
def anyL : List UInt8 := [97, 110, 121]
def noneL : List UInt8 := [110, 111, 110, 101]
def mean (alone : Bool) (w : List UInt8) : Option S :=
  if alone = true ∧ w = anyL then some (0, 1000000000) else if alone = true ∧ w = noneL then some (0, 0) else cmpI w
def meetI (alone : Bool) : S → List W → Except Nat S
  | a, [] => .ok a
  | a, (w, p) :: r => match mean alone w with
    | none => .error p
    | some i => meetI alone (inter a i) r
def pieceI (q : Pc) : Except Nat S := if q.1 = [] then .error q.2 else meetI (decide (q.1.length = 1)) (0, 1000000000) q.1
def readI : List S → List Pc → Except Nat (List S)
  | acc, [] => .ok acc
  | acc, q :: r => match pieceI q with
    | .error e => .error e
    | .ok i => readI (acc ++ [i]) r
def cutL (s : List UInt8) : List Pc := go s 0 [] []
noncomputable def setOf (l : List S) : List S := nf (has l)
inductive Told where
  | ok : List S → Told
  | form : Nat → Told
  | long : Told
noncomputable def told (s : List UInt8) : Told :=
  if 400 < s.length then .long else match readI [] (cutL s) with
    | .error e => .form e
    | .ok l => if 6 < (setOf l).length then .long else .ok (setOf l)
/-! What words have does not hang on their places. -/
def meetT (alone : Bool) : S → List (List UInt8) → Option S
  | a, [] => some a
  | a, w :: r => match mean alone w with
    | none => none
    | some i => meetT alone (inter a i) r
theorem meet_T (alone : Bool) (ws : List W) : ∀ a, (meetI alone a ws).toOption = meetT alone a (ws.map Prod.fst) := by
  induction ws with
  | nil => intro a; rfl
  | cons w r ih =>
    intro a
    simp only [meetI, List.map_cons, meetT]
    cases mean alone w.1 with
    | none => rfl
    | some i => exact ih _
def pieceT (ws : List (List UInt8)) : Option S := if ws = [] then none else meetT (decide (ws.length = 1)) (0, 1000000000) ws
theorem piece_T (q : Pc) : (pieceI q).toOption = pieceT (q.1.map Prod.fst) := by
  unfold pieceI pieceT
  by_cases h : q.1 = []
  · rw [if_pos h, h]; rfl
  · rw [if_neg h, if_neg (by simpa using h), meet_T, List.length_map]
def readT : List S → List (List (List UInt8)) → Option (List S)
  | acc, [] => some acc
  | acc, q :: r => match pieceT q with
    | none => none
    | some i => readT (acc ++ [i]) r
theorem read_T (l : List Pc) : ∀ acc, (readI acc l).toOption = readT acc (l.map fun q => q.1.map Prod.fst) := by
  induction l with
  | nil => intro acc; rfl
  | cons q r ih =>
    intro acc
    simp only [readI, List.map_cons, readT]
    have hq := piece_T q
    cases hp : pieceI q with
    | error e => rw [hp] at hq; rw [← hq]; rfl
    | ok i => rw [hp] at hq; rw [← hq]; exact ih _
theorem toOption_some {e : Except Nat (List S)} {l : List S} : e.toOption = some l ↔ e = .ok l := by
  cases e with
  | error x => simp [Except.toOption]
  | ok x => simp [Except.toOption]
/-! Sets. -/
end Go.Proofs.YtpicnbidbddggaaGreatDoor.Rule
/-
  Plain mathematics: how a set is written, and that it is read as that set; two rules with a mark, or a blank, between. No program.
-/
namespace Go.Proofs.YtpicnbidbddggaaGreatDoor.Rule
open Go.RowKit Go.Lib Go.Proofs.YtpicnbidbddggaaGreatDoor.Span
open Go.Proofs.YtpicnbidbddggaaGreatDoor.Ver (txt readR afterN txt_len)
set_option linter.unusedVariables false
def tz (p : Int) : List UInt8 := if 0 ≤ p ∧ p < 1000000000 then txt p.toNat else []
theorem tz_in {p : Int} (h0 : 0 ≤ p) (h1 : p < 1000000000) : tz p = txt p.toNat := if_pos ⟨h0, h1⟩
def partL (s : S) : List UInt8 :=
  if s.2 = s.1 + 1 then 61 :: tz s.1
  else if s.1 = 0 then 60 :: tz s.2
  else if s.2 = 1000000000 then 62 :: 61 :: tz s.1
  else 62 :: 61 :: (tz s.1 ++ 32 :: 60 :: tz s.2)
def partWords (s : S) : List (List UInt8) :=
  if s.2 = s.1 + 1 then [61 :: tz s.1]
  else if s.1 = 0 then [60 :: tz s.2]
  else if s.2 = 1000000000 then [62 :: 61 :: tz s.1]
  else [62 :: 61 :: tz s.1, 60 :: tz s.2]
def joinL : List S → List UInt8
  | [] => []
  | [s] => partL s
  | s :: t => partL s ++ 32 :: 124 :: 32 :: joinL t
def showL (l : List S) : List UInt8 :=
  if isSet (-1) l = false then [] else if l = [] then noneL else if l = [(0, 1000000000)] then anyL else joinL l
theorem tz_len (p : Int) : (tz p).length ≤ 11 := by
  unfold tz; split
  · exact (txt_len _).2
  · simp
theorem part_len (s : S) : (partL s).length ≤ 26 := by
  have h1 := tz_len s.1
  have h2 := tz_len s.2
  unfold partL
  repeat' split
  all_goals simp only [List.length_cons, List.length_append] <;> omega
theorem join_len : ∀ l : List S, (joinL l).length ≤ 29 * l.length
  | [] => by simp [joinL]
  | [s] => by have := part_len s; simp [joinL]; omega
  | s :: t :: r => by
    have h1 := part_len s
    have h2 := join_len (t :: r)
    simp only [joinL, List.length_append, List.length_cons] at *
    omega
theorem readI_of {s : List UInt8} {l : List S} (h : readT [] ((cutL s).map fun q => q.1.map Prod.fst) = some l) : readI [] (cutL s) = .ok l := by
  rw [← read_T] at h
  exact toOption_some.1 h
theorem told_of {s : List UInt8} {l : List S} (hs : s.length ≤ 400) (h : readT [] ((cutL s).map fun q => q.1.map Prod.fst) = some l) : told s = if 6 < (setOf l).length then .long else .ok (setOf l) := by
  unfold told
  rw [if_neg (by omega), readI_of h]
theorem show_len (l : List S) : (showL l).length ≤ 29 * l.length + 4 := by
  have := join_len l
  unfold showL
  repeat' split
  all_goals simp [noneL, anyL] <;> omega
/-! Two rules. -/
def plainB (b : UInt8) : Bool := !(b == 124 || (decide (97 ≤ b.toNat) && decide (b.toNat ≤ 122)))
def plainL (l : List UInt8) : Bool := l.all plainB
end Go.Proofs.YtpicnbidbddggaaGreatDoor.Rule
