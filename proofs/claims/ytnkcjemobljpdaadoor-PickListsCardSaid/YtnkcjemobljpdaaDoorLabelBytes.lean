/-
  Names as bytes: a rune that may stand in a name is one byte or two; a name that may be is the bytes of its runes. No program.
-/
import Derived.Test.YtnkcjemobljpdaaDoorLabelFit
import Derived.Lib.Strings
namespace Go.Proofs.YtnkcjemobljpdaaDoor.Label
open Go.Lib
set_option linter.unusedVariables false
theorem byt_end (s : ByteArray) (i : Nat) (h : s.size ≤ i) : byt s i = 0 := by
  have h2 : ¬ i < s.data.size := by have : s.data.size = s.size := rfl; omega
  have e : s.get! i = s.data[i]! := rfl
  unfold byt
  rw [e, getElem!_neg s.data i h2]
  rfl
theorem kind_form (x : Nat) (h : kindN x ≠ 4) : x < 128 ∨ (945 ≤ x ∧ x ≤ 969) := by
  unfold kindN at h
  split at h
  · omega
  · split at h
    · omega
    · split at h
      · omega
      · split at h <;> omega
def enc (x : Nat) : List UInt8 := if x < 128 then [UInt8.ofNat x] else [UInt8.ofNat (192 + x / 64), UInt8.ofNat (128 + x % 64)]
def encs (l : List Nat) : List UInt8 := l.flatMap enc
theorem encs_nil : encs [] = [] := rfl
theorem encs_cons (x : Nat) (l : List Nat) : encs (x :: l) = enc x ++ encs l := by simp [encs]
theorem encs_append (l m : List Nat) : encs (l ++ m) = encs l ++ encs m := by simp [encs]
theorem u8 (n : Nat) (h : n < 256) : (UInt8.ofNat n).toNat = n := by rw [UInt8.toNat_ofNat']; omega
theorem byt_str (l : List UInt8) (i : Nat) : byt (str l) i = (l[i]?.getD 0).toNat := by
  by_cases h : i < l.length
  · obtain ⟨hi, hg⟩ := str_get l i l[i] (by simp [h])
    rw [← byt_at (str l) i hi, hg]
    simp [h]
  · rw [byt_end _ i (by rw [str_size]; omega)]
    simp [h]
theorem byt_pre (pre u : List UInt8) (k : Nat) : byt (str (pre ++ u)) (pre.length + k) = (u[k]?.getD 0).toNat := by
  rw [byt_str, List.getElem?_append_right (by omega)]
  congr 3
  omega
theorem byt_pre0 (pre u : List UInt8) : byt (str (pre ++ u)) pre.length = (u[0]?.getD 0).toNat := byt_pre pre u 0
theorem dec_enc (pre t : List UInt8) (x : Nat) (hx : kindN x ≠ 4) : Utf8.decode (str (pre ++ (enc x ++ t))) pre.length = (x, (enc x).length) := by
  rw [dec_eq, byt_pre0, byt_pre, byt_pre, byt_pre, str_size, List.length_append, List.length_append]
  rcases kind_form x hx with h | h
  · have he : enc x = [UInt8.ofNat x] := by unfold enc; rw [if_pos h]
    rw [he]
    simp only [List.cons_append, List.nil_append, List.getElem?_cons_zero, Option.getD_some, List.length_cons, List.length_nil]
    rw [u8 x (by omega)]
    unfold decodeN
    rw [if_pos h]
  · have he : enc x = [UInt8.ofNat (192 + x / 64), UInt8.ofNat (128 + x % 64)] := by unfold enc; rw [if_neg (by omega)]
    rw [he]
    simp only [List.cons_append, List.nil_append, List.getElem?_cons_zero, List.getElem?_cons_succ, Option.getD_some, List.length_cons, List.length_nil]
    rw [u8 (192 + x / 64) (by omega), u8 (128 + x % 64) (by omega)]
    unfold decodeN
    rw [if_neg (by omega), if_pos (by omega), if_pos (by omega)]
    apply Prod.ext
    · simp only; omega
    · rfl
theorem enc_pos (x : Nat) : 1 ≤ (enc x).length := by unfold enc; split <;> simp
theorem runes_enc : ∀ (L : List Nat) (pre : List UInt8), (∀ x ∈ L, kindN x ≠ 4) → runes (str (pre ++ encs L)) pre.length = L
  | [], pre, _ => by rw [encs_nil, List.append_nil, runes_end _ _ (by rw [str_size]; omega)]
  | x :: L, pre, h => by
    have hx := h x (by simp)
    have hp := enc_pos x
    have hd := dec_enc pre (encs L) x hx
    have e1 : rn (str (pre ++ (enc x ++ encs L))) pre.length = x := by unfold rn; rw [hd]
    have e2 : wd (str (pre ++ (enc x ++ encs L))) pre.length = (enc x).length := by unfold wd; rw [hd]
    have ih := runes_enc L (pre ++ enc x) (fun y hy => h y (by simp [hy]))
    rw [List.length_append, List.append_assoc] at ih
    rw [encs_cons, runes_step _ _ (by rw [str_size]; simp; omega), e1, e2, ih]
theorem skip_enc : ∀ (k : Nat) (L : List Nat) (pre : List UInt8), (∀ x ∈ L, kindN x ≠ 4) → skip (str (pre ++ encs L)) k pre.length = pre.length + (encs (L.take k)).length
  | 0, L, pre, _ => by simp [skip, encs_nil]
  | k + 1, [], pre, _ => by rw [skip_end _ _ _ (by rw [str_size, encs_nil]; simp)]; simp [encs_nil]
  | k + 1, x :: L, pre, h => by
    have hx := h x (by simp)
    have hp := enc_pos x
    have hd := dec_enc pre (encs L) x hx
    have e2 : wd (str (pre ++ (enc x ++ encs L))) pre.length = (enc x).length := by unfold wd; rw [hd]
    have ih := skip_enc k L (pre ++ enc x) (fun y hy => h y (by simp [hy]))
    rw [List.length_append, List.append_assoc] at ih
    rw [encs_cons, skip, if_pos (by rw [str_size]; simp; omega), e2, ih, List.take_succ_cons, encs_cons, List.length_append]
    omega
set_option maxHeartbeats 4000000 in
theorem decN_inv (n b0 b1 b2 b3 x k : Nat) (h1 : b1 < 256) (hx : kindN x ≠ 4) (hd : decodeN n b0 b1 b2 b3 = (x, k)) (h0 : b0 < 256) : (x < 128 ∧ b0 = x ∧ k = 1) ∨ (945 ≤ x ∧ x ≤ 969 ∧ b0 = 192 + x / 64 ∧ b1 = 128 + x % 64 ∧ k = 2 ∧ 2 ≤ n) := by
  have hf := kind_form x hx
  have e1 := congrArg Prod.fst hd
  have e2 := congrArg Prod.snd hd
  clear hd hx
  unfold decodeN at e1 e2
  split at e1
  · rename_i g
    rw [if_pos g] at e2
    simp only at e1 e2
    omega
  · rename_i g
    rw [if_neg g] at e2
    split at e1
    · rename_i g2
      rw [if_pos g2] at e2
      split at e1
      · rename_i g3
        rw [if_pos g3] at e2
        simp only at e1 e2
        omega
      · simp only at e1
        omega
    · split at e1
      · split at e1 <;> (simp only at e1; omega)
      · split at e1
        · split at e1 <;> (simp only at e1; omega)
        · simp only at e1; omega
theorem list_get (s : ByteArray) (i : Nat) (h : i < s.size) : s.data.toList[i]? = some (UInt8.ofNat (byt s i)) := by
  have hl : i < s.data.toList.length := by rw [← Lib.size_eq]; exact h
  rw [List.getElem?_eq_getElem hl]
  congr 1
  apply UInt8.toNat_inj.1
  rw [u8 _ (byt_lt s i), ← byt_at s i h]
  rfl
theorem drop_one (s : ByteArray) (i : Nat) (h : i < s.size) : s.data.toList.drop i = UInt8.ofNat (byt s i) :: s.data.toList.drop (i + 1) := by
  have hl : i < s.data.toList.length := by rw [← Lib.size_eq]; exact h
  have := list_get s i h
  rw [List.getElem?_eq_getElem hl] at this
  rw [List.drop_eq_getElem_cons hl, Option.some.inj this]
theorem bytes_of (s : ByteArray) (pos : Nat) (hp : pos ≤ s.size) (h : ∀ x ∈ runes s pos, kindN x ≠ 4) : s.data.toList.drop pos = encs (runes s pos) := by
  induction hk : s.size - pos using Nat.strongRecOn generalizing pos with
  | _ k ih =>
    by_cases hlt : pos < s.size
    · have hw := wd_pos s pos hlt
      have hl := wd_le s pos hlt
      rw [runes_step s pos hlt] at h ⊢
      have hx := h (rn s pos) (by simp)
      have hd : decodeN (s.size - pos) (byt s pos) (byt s (pos + 1)) (byt s (pos + 2)) (byt s (pos + 3)) = (rn s pos, wd s pos) := by unfold rn wd; rw [← dec_eq]
      have hin := decN_inv _ _ _ _ _ _ _ (byt_lt s (pos + 1)) hx hd (byt_lt s pos)
      have hi := ih (s.size - (pos + wd s pos)) (by omega) (pos + wd s pos) hl (fun y hy => h y (by simp [hy])) rfl
      rw [encs_cons, ← hi]
      rcases hin with ⟨g1, g2, g3⟩ | ⟨g1, g2, g3, g4, g5, g6⟩
      · have he : enc (rn s pos) = [UInt8.ofNat (rn s pos)] := by unfold enc; rw [if_pos g1]
        rw [he, g3, drop_one s pos hlt, g2]; rfl
      · have he : enc (rn s pos) = [UInt8.ofNat (192 + rn s pos / 64), UInt8.ofNat (128 + rn s pos % 64)] := by unfold enc; rw [if_neg (by omega)]
        rw [he, g5, drop_one s pos hlt, drop_one s (pos + 1) (by omega), g3, g4]; rfl
    · rw [runes_end s pos hlt, encs_nil, List.drop_of_length_le (by rw [← Lib.size_eq]; omega)]
theorem allOk_kind : ∀ (l : List Nat) (i : Nat), allOk i l = true → ∀ x ∈ l, kindN x ≠ 4
  | [], _, _, _, h => by simp at h
  | y :: l, i, h, x, hx => by
    simp only [allOk, Bool.and_eq_true] at h
    rcases List.mem_cons.1 hx with rfl | hx
    · intro hk
      rw [okN_other i x hk] at h
      exact Bool.noConfusion h.1
    · exact allOk_kind l (i + 1) h.2 x hx
theorem fit_kind (l : List Nat) (h : fitL l = true) : ∀ x ∈ l, kindN x ≠ 4 := by
  simp only [fitL, Bool.and_eq_true] at h
  exact allOk_kind l 0 h.1
/-- A name that may be is the bytes of its runes. -/
theorem name_bytes (s : ByteArray) (h : fitL (runes s 0) = true) : s = str (encs (runes s 0)) := by
  have := bytes_of s 0 (by omega) (fit_kind _ h)
  rw [List.drop_zero] at this
  rw [← this]
  exact (str_of s).symm
end Go.Proofs.YtnkcjemobljpdaaDoor.Label
