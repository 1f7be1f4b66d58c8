/-
  Plain mathematics of versions: places and parts, decimal texts, and how a text is gone through. No program.
-/
import Derived.Test.YtgmkagddfbfolaaDoorCells
import Derived.Test.YtgmkagddfbfolaaDoorLabelText
import Derived.Lib.ItoaNum
namespace Go.Proofs.YtgmkagddfbfolaaDoor.Ver
open Go.RowKit Go.Lib Go.Proofs.YtgmkagddfbfolaaDoor.Label
set_option linter.unusedVariables false
def pA (p : Nat) : Nat := p / 1000000 % 1000
def pB (p : Nat) : Nat := p / 1000 % 1000
def pC (p : Nat) : Nat := p % 1000
def three (x y z : Int) : Array Value := #[.int .i64 x, .int .i64 y, .int .i64 z]
def partsOf (p : Nat) : Array Value := three (pA p : Nat) (pB p : Nat) (pC p : Nat)
/-- Whether parts are a version's. -/
def Fits (x y z : Int) : Prop := (0 ≤ x ∧ x ≤ 999) ∧ (0 ≤ y ∧ y ≤ 999) ∧ (0 ≤ z ∧ z ≤ 999)
instance (x y z : Int) : Decidable (Fits x y z) := by unfold Fits; infer_instance
def placeN (x y z : Int) : Nat := (x * 1000000 + y * 1000 + z).toNat
theorem place_lt {x y z : Int} (h : Fits x y z) : placeN x y z < 1000000000 := by unfold Fits at h; unfold placeN; omega
theorem place_parts {x y z : Int} (h : Fits x y z) : (pA (placeN x y z) : Int) = x ∧ (pB (placeN x y z) : Int) = y ∧ (pC (placeN x y z) : Int) = z := by
  unfold Fits at h; unfold pA pB pC placeN; omega
theorem parts_fit (p : Nat) : Fits (pA p : Nat) (pB p : Nat) (pC p : Nat) := by unfold Fits pA pB pC; omega
theorem parts_place {p : Nat} (h : p < 1000000000) : placeN (pA p : Nat) (pB p : Nat) (pC p : Nat) = p := by unfold pA pB pC placeN; omega
/-- A version's text. -/
def txt (p : Nat) : List UInt8 := decDigits (pA p) ++ (46 :: (decDigits (pB p) ++ (46 :: decDigits (pC p))))
theorem dec3 {n : Nat} (h1 : ¬ n < 100) (h2 : n < 1000) : decDigits n = [UInt8.ofNat (48 + n / 100), UInt8.ofNat (48 + n / 10 % 10), UInt8.ofNat (48 + n % 10)] := by
  rw [decDigits, dif_neg (by omega), decDigits_two (by omega) (by omega)]
  simp only [List.cons_append, List.nil_append]
  rw [show n / 10 / 10 = n / 100 by omega]
theorem dec_cases {n : Nat} (h : n < 1000) : ∃ l : List Nat, decDigits n = l.map (fun d => UInt8.ofNat (48 + d)) ∧ (∀ d ∈ l, d < 10) ∧ 1 ≤ l.length ∧ l.length ≤ 3 ∧ l.foldl (fun a d => a * 10 + d) 0 = n := by
  by_cases h1 : n < 10
  · exact ⟨[n], by rw [decDigits_one h1]; rfl, by simpa using h1, by simp, by simp, by simp⟩
  · by_cases h2 : n < 100
    · exact ⟨[n / 10, n % 10], by rw [decDigits_two h1 h2]; rfl, by intro d hd; simp at hd; omega, by simp, by simp, by simp; omega⟩
    · exact ⟨[n / 100, n / 10 % 10, n % 10], by rw [dec3 h2 h]; rfl, by intro d hd; simp at hd; omega, by simp, by simp, by simp; omega⟩
theorem dec_len {n : Nat} (h : n < 1000) : 1 ≤ (decDigits n).length ∧ (decDigits n).length ≤ 3 := by
  obtain ⟨l, h1, _, h2, h3, _⟩ := dec_cases h
  rw [h1, List.length_map]; exact ⟨h2, h3⟩
theorem txt_len (p : Nat) : 5 ≤ (txt p).length ∧ (txt p).length ≤ 11 := by
  have a := dec_len (n := pA p) (by unfold pA; omega)
  have b := dec_len (n := pB p) (by unfold pB; omega)
  have c := dec_len (n := pC p) (by unfold pC; omega)
  unfold txt
  simp only [List.length_append, List.length_cons]
  omega
/-- How the program goes through a text: three parts, and which of them is at hand. -/
structure St where
  at_ : Nat
  x : Int
  y : Int
  z : Int
def digit (a : Int) (r : Nat) : Int := wrap64 (wrap64 (a * 10) + ((r : Int) - 48))
/-- One rune more; none behind a third dot. -/
def step (s : St) (r : Nat) : Option St :=
  if r = 46 then (if s.at_ = 2 then none else some ⟨s.at_ + 1, s.x, s.y, s.z⟩)
  else if s.at_ = 0 then some ⟨0, digit s.x r, s.y, s.z⟩ else if s.at_ = 1 then some ⟨1, s.x, digit s.y r, s.z⟩ else some ⟨2, s.x, s.y, digit s.z r⟩
def go : Option St → List Nat → Option St
  | none, _ => none
  | some s, [] => some s
  | some s, r :: l => go (step s r) l
theorem go_none (l : List Nat) : go none l = none := by cases l <;> rfl
theorem go_append : ∀ (l m : List Nat) (s : Option St), go s (l ++ m) = go (go s l) m
  | [], m, none => by rw [go_none, go_none, go_none]
  | [], m, some s => rfl
  | r :: l, m, none => by rw [go_none, go_none, go_none]
  | r :: l, m, some s => by show go (step s r) (l ++ m) = go (go (step s r) l) m; exact go_append l m _
/-- The number that digits say, behind what was said. -/
def say : Int → List Nat → Int
  | a, [] => a
  | a, d :: l => say (a * 10 + (d : Int)) l
theorem say_nat (a : Nat) (l : List Nat) : say (a : Int) l = ((l.foldl (fun (a d : Nat) => a * 10 + d) a : Nat) : Int) := by
  induction l generalizing a with
  | nil => rfl
  | cons d l ih =>
    show say ((a : Int) * 10 + (d : Int)) l = ((l.foldl (fun (a d : Nat) => a * 10 + d) (a * 10 + d) : Nat) : Int)
    rw [← ih]; congr 1
theorem w64 {n : Int} (h0 : 0 ≤ n) (h1 : n < 9223372036854775808) : wrap64 n = n := by unfold wrap64; omega
theorem digit_say {a : Int} {d : Nat} (h0 : 0 ≤ a) (h1 : a ≤ 100000) (hd : d < 10) : digit a (48 + d) = a * 10 + (d : Int) := by
  unfold digit
  rw [w64 (n := a * 10) (by omega) (by omega), w64 (by omega) (by omega)]; omega
theorem go_digits (s : St) (l : List Nat) (a : Int) (n : Nat) (hs : s.at_ < 3) (h0 : 0 ≤ a) (ha : a + 1 ≤ 10 ^ n) (hn : n + l.length ≤ 5) (hd : ∀ d ∈ l, d < 10)
    (he : (if s.at_ = 0 then s.x else if s.at_ = 1 then s.y else s.z) = a) :
    go (some s) (l.map (48 + ·)) = some (if s.at_ = 0 then ⟨0, say a l, s.y, s.z⟩ else if s.at_ = 1 then ⟨1, s.x, say a l, s.z⟩ else ⟨2, s.x, s.y, say a l⟩) := by
  induction l generalizing s a n with
  | nil =>
    obtain ⟨k, x, y, z⟩ := s
    simp only at hs he ⊢
    subst he
    have hk : k = 0 ∨ k = 1 ∨ k = 2 := by omega
    rcases hk with rfl | rfl | rfl <;> simp [go, say]
  | cons d l ih =>
    have hd0 := hd d (by simp)
    have h5 : a ≤ 100000 := by
      have : (10 : Int) ^ n ≤ 10 ^ 5 := by
        have := Nat.pow_le_pow_right (n := 10) (by omega) (show n ≤ 5 by simp at hn; omega)
        exact_mod_cast this
      omega
    have hg := digit_say h0 h5 hd0
    have hp : a * 10 + (d : Int) + 1 ≤ 10 ^ (n + 1) := by rw [Int.pow_succ]; omega
    have hne : ¬ 48 + d = 46 := by omega
    obtain ⟨k, x, y, z⟩ := s
    simp only at hs he
    have hk : k = 0 ∨ k = 1 ∨ k = 2 := by omega
    rw [List.map_cons]
    rcases hk with rfl | rfl | rfl
    · simp only [if_true] at he
      subst he
      show go (step ⟨0, x, y, z⟩ (48 + d)) _ = _
      rw [show step ⟨0, x, y, z⟩ (48 + d) = some ⟨0, x * 10 + (d : Int), y, z⟩ by simp [step, hne, hg]]
      exact ih ⟨0, x * 10 + (d : Int), y, z⟩ _ (n + 1) (by simp) (by omega) hp (by simp at hn; omega) (fun e he => hd e (by simp [he])) rfl
    · simp at he
      subst he
      show go (step ⟨1, x, y, z⟩ (48 + d)) _ = _
      rw [show step ⟨1, x, y, z⟩ (48 + d) = some ⟨1, x, y * 10 + (d : Int), z⟩ by simp [step, hne, hg]]
      exact ih ⟨1, x, y * 10 + (d : Int), z⟩ _ (n + 1) (by simp) (by omega) hp (by simp at hn; omega) (fun e he => hd e (by simp [he])) rfl
    · simp at he
      subst he
      show go (step ⟨2, x, y, z⟩ (48 + d)) _ = _
      rw [show step ⟨2, x, y, z⟩ (48 + d) = some ⟨2, x, y, z * 10 + (d : Int)⟩ by simp [step, hne, hg]]
      exact ih ⟨2, x, y, z * 10 + (d : Int)⟩ _ (n + 1) (by simp) (by omega) hp (by simp at hn; omega) (fun e he => hd e (by simp [he])) rfl
theorem map_digits (l : List Nat) (h : ∀ d ∈ l, d < 10) : (l.map (fun d => UInt8.ofNat (48 + d))).map UInt8.toNat = l.map (48 + ·) := by
  rw [List.map_map]
  refine List.map_congr_left fun d hd => ?_
  have := h d hd
  simp only [Function.comp, UInt8.toNat_ofNat']
  omega
/-- The digits of a number below 1000, as runes. -/
theorem dec_runes {n : Nat} (h : n < 1000) : ∃ l : List Nat, (decDigits n).map UInt8.toNat = l.map (48 + ·) ∧ (∀ d ∈ l, d < 10) ∧ l.length ≤ 3 ∧ say 0 l = (n : Int) := by
  obtain ⟨l, h1, h2, _, h3, h4⟩ := dec_cases h
  exact ⟨l, by rw [h1, map_digits l h2], h2, h3, by have := say_nat 0 l; rw [h4] at this; exact this⟩
theorem go_txt (p : Nat) : go (some ⟨0, 0, 0, 0⟩) ((txt p).map UInt8.toNat) = some ⟨2, (pA p : Nat), (pB p : Nat), (pC p : Nat)⟩ := by
  obtain ⟨la, a1, a2, a3, a4⟩ := dec_runes (n := pA p) (by unfold pA; omega)
  obtain ⟨lb, b1, b2, b3, b4⟩ := dec_runes (n := pB p) (by unfold pB; omega)
  obtain ⟨lc, c1, c2, c3, c4⟩ := dec_runes (n := pC p) (by unfold pC; omega)
  unfold txt
  rw [List.map_append, List.map_cons, List.map_append, List.map_cons, a1, b1, c1, go_append,
    go_digits ⟨0, 0, 0, 0⟩ la 0 0 (by simp) (by omega) (by simp) (by omega) a2 rfl, a4]
  show go (step ⟨0, (pA p : Nat), 0, 0⟩ 46) _ = _
  rw [show step ⟨0, (pA p : Nat), 0, 0⟩ 46 = some ⟨1, (pA p : Nat), 0, 0⟩ from rfl, go_append,
    go_digits ⟨1, (pA p : Nat), 0, 0⟩ lb 0 0 (by simp) (by omega) (by simp) (by omega) b2 rfl, b4]
  show go (step ⟨1, (pA p : Nat), (pB p : Nat), 0⟩ 46) _ = _
  rw [show step ⟨1, (pA p : Nat), (pB p : Nat), 0⟩ 46 = some ⟨2, (pA p : Nat), (pB p : Nat), 0⟩ from rfl,
    go_digits ⟨2, (pA p : Nat), (pB p : Nat), 0⟩ lc 0 0 (by simp) (by omega) (by simp) (by omega) c2 rfl, c4]
  rfl
/-- A text of plain bytes is gone through byte by byte. -/
theorem byt_str (l : List UInt8) (i : Nat) (h : i < l.length) : byt (str l) i = (l[i]).toNat := by
  have h' : i < (str l).size := by rw [str_size]; exact h
  rw [← byt_at (str l) i h']; rfl
theorem dec_ascii (l : List UInt8) (i : Nat) (h : i < l.length) (ha : (l[i]).toNat < 128) : rn (str l) i = (l[i]).toNat ∧ wd (str l) i = 1 := by
  have hb := byt_str l i h
  unfold rn wd
  rw [dec_eq, hb, str_size]
  unfold decodeN
  rw [if_pos ha]
  exact ⟨rfl, rfl⟩
theorem runes_ascii (l : List UInt8) (ha : ∀ b ∈ l, b.toNat < 128) (i : Nat) : runes (str l) i = (l.drop i).map UInt8.toNat := by
  induction hk : l.length - i using Nat.strongRecOn generalizing i with
  | _ k ih =>
    by_cases h : i < l.length
    · obtain ⟨h1, h2⟩ := dec_ascii l i h (ha _ (List.getElem_mem h))
      rw [runes_step _ _ (by rw [str_size]; exact h), h1, h2, ih (l.length - (i + 1)) (by omega) (i + 1) rfl, List.drop_eq_getElem_cons h]
      rfl
    · rw [runes_end _ _ (by rw [str_size]; exact h), List.drop_of_length_le (by omega)]; rfl
theorem dec_ascii_all {n : Nat} (h : n < 1000) : ∀ b ∈ decDigits n, b.toNat < 128 := by
  obtain ⟨l, h1, h2, _⟩ := dec_cases h
  intro b hb
  rw [h1, List.mem_map] at hb
  obtain ⟨d, hd, rfl⟩ := hb
  have := h2 d hd
  rw [UInt8.toNat_ofNat']; omega
theorem txt_ascii (p : Nat) : ∀ b ∈ txt p, b.toNat < 128 := by
  intro b hb
  unfold txt at hb
  simp only [List.mem_append, List.mem_cons] at hb
  rcases hb with hb | rfl | hb | rfl | hb
  · exact dec_ascii_all (by unfold pA; omega) b hb
  · decide
  · exact dec_ascii_all (by unfold pB; omega) b hb
  · decide
  · exact dec_ascii_all (by unfold pC; omega) b hb
/-- What is read of a text. -/
def readR (s : ByteArray) : Option Nat :=
  match go (some ⟨0, 0, 0, 0⟩) (runes s 0) with
  | none => none
  | some t => if Fits t.x t.y t.z ∧ str (txt (placeN t.x t.y t.z)) = s then some (placeN t.x t.y t.z) else none
theorem read_txt {p : Nat} (h : p < 1000000000) : readR (str (txt p)) = some p := by
  unfold readR
  rw [runes_ascii _ (txt_ascii p) 0, List.drop_zero, go_txt]
  simp only
  rw [parts_place h, if_pos ⟨parts_fit p, rfl⟩]
theorem read_some {s : ByteArray} {p : Nat} (h : readR s = some p) : s = str (txt p) ∧ p < 1000000000 := by
  unfold readR at h
  split at h
  · cases h
  · split at h
    · rename_i hc
      injection h with h
      subst h
      exact ⟨hc.2.symm, place_lt hc.1⟩
    · cases h
/-- How the document goes through a text: what the parts ahead come to, and the part at hand. -/
def rstep (q : Int × Int) (b : UInt8) : Int × Int :=
  if b.toNat = 46 then (wrap64 (wrap64 (q.1 + q.2) * 1000), 0) else (q.1, wrap64 (wrap64 (q.2 * 10) + ((b.toNat % 48 % 10 : Nat) : Int)))
def rgo (q : Int × Int) (l : List UInt8) : Int × Int := l.foldl rstep q
theorem rgo_digits (l : List Nat) (q a : Int) (n : Nat) (h0 : 0 ≤ a) (ha : a + 1 ≤ 10 ^ n) (hn : n + l.length ≤ 5) (hd : ∀ d ∈ l, d < 10) :
    rgo (q, a) (l.map (fun d => UInt8.ofNat (48 + d))) = (q, say a l) := by
  induction l generalizing a n with
  | nil => rfl
  | cons d l ih =>
    have hd0 := hd d (by simp)
    have h5 : a ≤ 100000 := by
      have : (10 : Int) ^ n ≤ 10 ^ 5 := by
        have := Nat.pow_le_pow_right (n := 10) (by omega) (show n ≤ 5 by simp at hn; omega)
        exact_mod_cast this
      omega
    have hb : (UInt8.ofNat (48 + d)).toNat = 48 + d := by rw [UInt8.toNat_ofNat']; omega
    have hs : rstep (q, a) (UInt8.ofNat (48 + d)) = (q, a * 10 + (d : Int)) := by
      unfold rstep
      rw [hb, if_neg (by omega), w64 (n := a * 10) (by omega) (by omega), show (48 + d) % 48 % 10 = d by omega, w64 (by omega) (by omega)]
    show rgo (rstep (q, a) (UInt8.ofNat (48 + d))) _ = _
    rw [hs]
    exact ih _ (n + 1) (by omega) (by rw [Int.pow_succ]; omega) (by simp at hn; omega) (fun e he => hd e (by simp [he]))
theorem rgo_append (q : Int × Int) (l m : List UInt8) : rgo q (l ++ m) = rgo (rgo q l) m := List.foldl_append
theorem rgo_dec {n : Nat} (h : n < 1000) (q : Int) : rgo (q, 0) (decDigits n) = (q, (n : Int)) := by
  obtain ⟨l, h1, h2, _, h3, h4⟩ := dec_cases h
  rw [h1, rgo_digits l q 0 0 (by omega) (by simp) (by omega) h2]
  have := say_nat 0 l
  rw [h4] at this
  exact congrArg (Prod.mk q) this
theorem rgo_dot (q a : Int) (l : List UInt8) (h0 : 0 ≤ q + a) (h1 : q + a < 1000000000000) : rgo (q, a) (46 :: l) = rgo ((q + a) * 1000, 0) l := by
  show rgo (rstep (q, a) 46) l = _
  unfold rstep
  rw [if_pos (show UInt8.toNat 46 = 46 from rfl), w64 (n := q + a) (by omega) (by omega), w64 (by omega) (by omega)]
theorem rgo_txt {p : Nat} (h : p < 1000000000) : (rgo (0, 0) (txt p)).1 + (rgo (0, 0) (txt p)).2 = (p : Int) := by
  have ha : pA p < 1000 := by unfold pA; omega
  have hb : pB p < 1000 := by unfold pB; omega
  have hc : pC p < 1000 := by unfold pC; omega
  unfold txt
  rw [rgo_append, rgo_dec ha, rgo_dot _ _ _ (by omega) (by omega), rgo_append, rgo_dec hb, rgo_dot _ _ _ (by omega) (by omega), rgo_dec hc]
  unfold pA pB pC
  omega
/-- What the document reads of a text. -/
def rreadR (s : ByteArray) : Option Nat :=
  let q := rgo (0, 0) s.data.toList
  let v := wrap64 (q.1 + q.2)
  if s.size ≤ 11 ∧ (0 ≤ v ∧ v < 1000000000) ∧ str (txt v.toNat) = s then some v.toNat else none
theorem rread_txt {p : Nat} (h : p < 1000000000) : rreadR (str (txt p)) = some p := by
  have hd : (str (txt p)).data.toList = txt p := rfl
  have hl := txt_len p
  unfold rreadR
  simp only [hd, rgo_txt h]
  rw [w64 (by omega) (by omega), if_pos ⟨by rw [str_size]; omega, ⟨by omega, by omega⟩, by rw [Int.toNat_natCast]⟩, Int.toNat_natCast]
theorem rread_some {s : ByteArray} {p : Nat} (h : rreadR s = some p) : s = str (txt p) ∧ p < 1000000000 := by
  unfold rreadR at h
  simp only at h
  split at h
  · rename_i hc
    injection h with h
    subst h
    exact ⟨hc.2.2.symm, by omega⟩
  · cases h
theorem read_same (s : ByteArray) : readR s = rreadR s := by
  cases h : readR s with
  | some p =>
    obtain ⟨rfl, hp⟩ := read_some h
    exact (rread_txt hp).symm
  | none =>
    cases h' : rreadR s with
    | none => rfl
    | some p =>
      obtain ⟨rfl, hp⟩ := rread_some h'
      rw [read_txt hp] at h
      cases h
def optV : Option Nat → Int
  | some p => (p : Int)
  | none => 0
def unitN (k : Nat) : Nat := if k = 0 then 1000000 else if k = 1 then 1000 else 1
/-- The first place with one more of a part. -/
def afterN (p k : Nat) : Nat := (p / unitN k + 1) * unitN k
end Go.Proofs.YtgmkagddfbfolaaDoor.Ver
