/-
  Plain mathematics: the bytes of a name that may be are those of its runes, one behind the other; names stand as their bytes do; what is clipped of one that may be, may be. No program.
-/
import Derived.Test.YtkkbccaggnodhaaDoorLabelClip
import Derived.Test.YtkkbccaggnodhaaDoorLabelCmp
import Derived.Test.YtkkbccaggnodhaaDoorLabelMarks
namespace Go.Proofs.YtkkbccaggnodhaaDoor.Label
open Go.Lib
set_option linter.unusedVariables false
theorem kind_form (x : Nat) (h : kindN x ≠ 4) : x < 128 ∨ (945 ≤ x ∧ x ≤ 969) := by
  unfold kindN at h
  split at h
  · omega
  · split at h
    · omega
    · split at h
      · omega
      · split at h <;> omega
def enc (x : Nat) : List UInt8 := if x < 128 then [UInt8.ofNat x] else [UInt8.ofNat (192 + x / 64), UInt8.ofNat (128 + x % 64)]
def encs (l : List Nat) : List UInt8 := l.flatMap enc
theorem encs_nil : encs [] = [] := rfl
theorem encs_cons (x : Nat) (l : List Nat) : encs (x :: l) = enc x ++ encs l := by simp [encs]
theorem encs_append (l m : List Nat) : encs (l ++ m) = encs l ++ encs m := by simp [encs]
theorem u8 (n : Nat) (h : n < 256) : (UInt8.ofNat n).toNat = n := by rw [UInt8.toNat_ofNat']; omega
theorem byt_str (l : List UInt8) (i : Nat) : byt (str l) i = (l[i]?.getD 0).toNat := by
  by_cases h : i < l.length
  · obtain ⟨hi, hg⟩ := str_get l i l[i] (by simp [h])
    rw [← byt_at (str l) i hi, hg]
    simp [h]
  · rw [byt_end _ i (by rw [str_size]; omega)]
    simp [h]
theorem byt_pre (pre u : List UInt8) (k : Nat) : byt (str (pre ++ u)) (pre.length + k) = (u[k]?.getD 0).toNat := by
  rw [byt_str, List.getElem?_append_right (by omega)]
  congr 3
  omega
theorem byt_pre0 (pre u : List UInt8) : byt (str (pre ++ u)) pre.length = (u[0]?.getD 0).toNat := byt_pre pre u 0
theorem dec_enc (pre t : List UInt8) (x : Nat) (hx : kindN x ≠ 4) : Utf8.decode (str (pre ++ (enc x ++ t))) pre.length = (x, (enc x).length) := by
  rw [dec_eq, byt_pre0, byt_pre, byt_pre, byt_pre, str_size, List.length_append, List.length_append]
  rcases kind_form x hx with h | h
  · have he : enc x = [UInt8.ofNat x] := by unfold enc; rw [if_pos h]
    rw [he]
    simp only [List.cons_append, List.nil_append, List.getElem?_cons_zero, Option.getD_some, List.length_cons, List.length_nil]
    rw [u8 x (by omega)]
    unfold decodeN
    rw [if_pos h]
  · have he : enc x = [UInt8.ofNat (192 + x / 64), UInt8.ofNat (128 + x % 64)] := by unfold enc; rw [if_neg (by omega)]
    rw [he]
    simp only [List.cons_append, List.nil_append, List.getElem?_cons_zero, List.getElem?_cons_succ, Option.getD_some, List.length_cons, List.length_nil]
    rw [u8 (192 + x / 64) (by omega), u8 (128 + x % 64) (by omega)]
    unfold decodeN
    rw [if_neg (by omega), if_pos (by omega), if_pos (by omega)]
    apply Prod.ext
    · simp only; omega
    · rfl
theorem enc_pos (x : Nat) : 1 ≤ (enc x).length := by unfold enc; split <;> simp
theorem runes_enc : ∀ (L : List Nat) (pre : List UInt8), (∀ x ∈ L, kindN x ≠ 4) → runes (str (pre ++ encs L)) pre.length = L
  | [], pre, _ => by rw [encs_nil, List.append_nil, runes_end _ _ (by rw [str_size]; omega)]
  | x :: L, pre, h => by
    have hx := h x (by simp)
    have hp := enc_pos x
    have hd := dec_enc pre (encs L) x hx
    have e1 : rn (str (pre ++ (enc x ++ encs L))) pre.length = x := by unfold rn; rw [hd]
    have e2 : wd (str (pre ++ (enc x ++ encs L))) pre.length = (enc x).length := by unfold wd; rw [hd]
    have ih := runes_enc L (pre ++ enc x) (fun y hy => h y (by simp [hy]))
    rw [List.length_append, List.append_assoc] at ih
    rw [encs_cons, runes_step _ _ (by rw [str_size]; simp; omega), e1, e2, ih]
theorem skip_enc : ∀ (k : Nat) (L : List Nat) (pre : List UInt8), (∀ x ∈ L, kindN x ≠ 4) → skip (str (pre ++ encs L)) k pre.length = pre.length + (encs (L.take k)).length
  | 0, L, pre, _ => by simp [skip, encs_nil]
  | k + 1, [], pre, _ => by rw [skip_end _ _ _ (by rw [str_size, encs_nil]; simp)]; simp [encs_nil]
  | k + 1, x :: L, pre, h => by
    have hx := h x (by simp)
    have hp := enc_pos x
    have hd := dec_enc pre (encs L) x hx
    have e2 : wd (str (pre ++ (enc x ++ encs L))) pre.length = (enc x).length := by unfold wd; rw [hd]
    have ih := skip_enc k L (pre ++ enc x) (fun y hy => h y (by simp [hy]))
    rw [List.length_append, List.append_assoc] at ih
    rw [encs_cons, skip, if_pos (by rw [str_size]; simp; omega), e2, ih, List.take_succ_cons, encs_cons, List.length_append]
    omega
set_option maxHeartbeats 4000000 in
theorem decN_inv (n b0 b1 b2 b3 x k : Nat) (h1 : b1 < 256) (hx : kindN x ≠ 4) (hd : decodeN n b0 b1 b2 b3 = (x, k)) (h0 : b0 < 256) : (x < 128 ∧ b0 = x ∧ k = 1) ∨ (945 ≤ x ∧ x ≤ 969 ∧ b0 = 192 + x / 64 ∧ b1 = 128 + x % 64 ∧ k = 2 ∧ 2 ≤ n) := by
  have hf := kind_form x hx
  have e1 := congrArg Prod.fst hd
  have e2 := congrArg Prod.snd hd
  clear hd hx
  unfold decodeN at e1 e2
  split at e1
  · rename_i g
    rw [if_pos g] at e2
    simp only at e1 e2
    omega
  · rename_i g
    rw [if_neg g] at e2
    split at e1
    · rename_i g2
      rw [if_pos g2] at e2
      split at e1
      · rename_i g3
        rw [if_pos g3] at e2
        simp only at e1 e2
        omega
      · simp only at e1
        omega
    · split at e1
      · split at e1 <;> (simp only at e1; omega)
      · split at e1
        · split at e1 <;> (simp only at e1; omega)
        · simp only at e1; omega
theorem list_get (s : ByteArray) (i : Nat) (h : i < s.size) : s.data.toList[i]? = some (UInt8.ofNat (byt s i)) := by
  have hl : i < s.data.toList.length := by rw [← Lib.size_eq]; exact h
  rw [List.getElem?_eq_getElem hl]
  congr 1
  apply UInt8.toNat_inj.1
  rw [u8 _ (byt_lt s i), ← byt_at s i h]
  rfl
theorem drop_one (s : ByteArray) (i : Nat) (h : i < s.size) : s.data.toList.drop i = UInt8.ofNat (byt s i) :: s.data.toList.drop (i + 1) := by
  have hl : i < s.data.toList.length := by rw [← Lib.size_eq]; exact h
  have := list_get s i h
  rw [List.getElem?_eq_getElem hl] at this
  rw [List.drop_eq_getElem_cons hl, Option.some.inj this]
theorem bytes_of (s : ByteArray) (pos : Nat) (hp : pos ≤ s.size) (h : ∀ x ∈ runes s pos, kindN x ≠ 4) : s.data.toList.drop pos = encs (runes s pos) := by
  induction hk : s.size - pos using Nat.strongRecOn generalizing pos with
  | _ k ih =>
    by_cases hlt : pos < s.size
    · have hw := wd_pos s pos hlt
      have hl := wd_le s pos hlt
      rw [runes_step s pos hlt] at h ⊢
      have hx := h (rn s pos) (by simp)
      have hd : decodeN (s.size - pos) (byt s pos) (byt s (pos + 1)) (byt s (pos + 2)) (byt s (pos + 3)) = (rn s pos, wd s pos) := by unfold rn wd; rw [← dec_eq]
      have hin := decN_inv _ _ _ _ _ _ _ (byt_lt s (pos + 1)) hx hd (byt_lt s pos)
      have hi := ih (s.size - (pos + wd s pos)) (by omega) (pos + wd s pos) hl (fun y hy => h y (by simp [hy])) rfl
      rw [encs_cons, ← hi]
      rcases hin with ⟨g1, g2, g3⟩ | ⟨g1, g2, g3, g4, g5, g6⟩
      · have he : enc (rn s pos) = [UInt8.ofNat (rn s pos)] := by unfold enc; rw [if_pos g1]
        rw [he, g3, drop_one s pos hlt, g2]; rfl
      · have he : enc (rn s pos) = [UInt8.ofNat (192 + rn s pos / 64), UInt8.ofNat (128 + rn s pos % 64)] := by unfold enc; rw [if_neg (by omega)]
        rw [he, g5, drop_one s pos hlt, drop_one s (pos + 1) (by omega), g3, g4]; rfl
    · rw [runes_end s pos hlt, encs_nil, List.drop_of_length_le (by rw [← Lib.size_eq]; omega)]
theorem allOk_kind : ∀ (l : List Nat) (i : Nat), allOk i l = true → ∀ x ∈ l, kindN x ≠ 4
  | [], _, _, _, h => by simp at h
  | y :: l, i, h, x, hx => by
    simp only [allOk, Bool.and_eq_true] at h
    rcases List.mem_cons.1 hx with rfl | hx
    · intro hk
      rw [okN_other i x hk] at h
      exact Bool.noConfusion h.1
    · exact allOk_kind l (i + 1) h.2 x hx
theorem fit_kind (l : List Nat) (h : fitL l = true) : ∀ x ∈ l, kindN x ≠ 4 := by
  simp only [fitL, Bool.and_eq_true] at h
  exact allOk_kind l 0 h.1
/-- A name that may be is the bytes of its runes. -/
theorem name_bytes (s : ByteArray) (h : fitL (runes s 0) = true) : s = str (encs (runes s 0)) := by
  have := bytes_of s 0 (by omega) (fit_kind _ h)
  rw [List.drop_zero] at this
  rw [← this]
  exact (str_of s).symm
theorem clip_enc (L : List Nat) (n : Int) (h : ∀ x ∈ L, kindN x ≠ 4) : clipS (str (encs L)) n = str (encs (L.take n.toNat)) := by
  have hs := skip_enc n.toNat L [] h
  simp only [List.nil_append, List.length_nil, Nat.zero_add] at hs
  unfold clipS
  rw [hs, str_extract, List.drop_zero, Nat.sub_zero]
  have e : encs L = encs (L.take n.toNat) ++ encs (L.drop n.toNat) := by rw [← encs_append, List.take_append_drop]
  rw [e, List.take_left']
  rfl
theorem runes_str (L : List Nat) (h : ∀ x ∈ L, kindN x ≠ 4) : runes (str (encs L)) 0 = L := by
  have := runes_enc L [] h
  simpa using this
theorem clip_runes (s : ByteArray) (n : Int) (h : fitL (runes s 0) = true) : runes (clipS s n) 0 = (runes s 0).take n.toNat := by
  have hk := fit_kind _ h
  have e := name_bytes s h
  generalize hL : runes s 0 = L at *
  subst e
  rw [clip_enc L n hk]
  exact runes_str _ (fun x hx => hk x (List.mem_of_mem_take hx))
theorem allOk_take : ∀ (l : List Nat) (i k : Nat), allOk i l = true → allOk i (l.take k) = true
  | [], _, _, _ => by simp [allOk]
  | x :: l, i, 0, _ => by simp [allOk]
  | x :: l, i, k + 1, h => by
    simp only [allOk, Bool.and_eq_true, List.take_succ_cons] at h ⊢
    exact ⟨h.1, allOk_take l (i + 1) k h.2⟩
theorem clip_fit (s : ByteArray) (n : Int) (h : fitL (runes s 0) = true) (hn : 1 ≤ n) : fitL (runes (clipS s n) 0) = true := by
  rw [clip_runes s n h]
  simp only [fitL, Bool.and_eq_true, decide_eq_true_eq] at h ⊢
  exact ⟨allOk_take _ 0 _ h.1, by rw [List.length_take]; omega, by rw [List.length_take]; omega⟩
theorem cmpL_take : ∀ (l : List Nat) (k : Nat), cmpL (l.take k) l ≤ 0
  | [], k => by simp [cmpL]
  | x :: l, 0 => by simp [cmpL]
  | x :: l, k + 1 => by
    rw [List.take_succ_cons, cmpL_eq]
    exact cmpL_take l k
theorem clip_low (s : ByteArray) (n : Int) (h : fitL (runes s 0) = true) : cmpL (runes (clipS s n) 0) (runes s 0) ≤ 0 := by
  rw [clip_runes s n h]; exact cmpL_take _ _
theorem clip_none (s : ByteArray) (n : Int) (hn : n < 1) : clipS s n = ⟨#[]⟩ := by
  unfold clipS
  rw [show n.toNat = 0 by omega]
  apply ByteArray.ext
  simp [skip]
theorem clip_size (s : ByteArray) (n : Int) : (clipS s n).size ≤ s.size := by
  unfold clipS
  rw [ByteArray.size_extract]
  have := skip_le s n.toNat 0 (by omega)
  omega
theorem marks_all : ∀ (l : List Nat), (∀ x ∈ l, kindN x ≠ 4) → marks l 0 + marks l 1 + marks l 2 + marks l 3 = l.length
  | [], _ => rfl
  | x :: l, h => by
    have ih := marks_all l (fun y hy => h y (by simp [hy]))
    have hx := h x (by simp)
    have hl := kindN_le x
    simp only [marks, List.length_cons]
    have hc : kindN x = 0 ∨ kindN x = 1 ∨ kindN x = 2 ∨ kindN x = 3 := by omega
    rcases hc with g | g | g | g <;> rw [g] <;> simp <;> omega
open Go.Op
theorem bl_self : ∀ l, bytesLess l l = false
  | [] => rfl
  | x :: l => by simp [bytesLess, bl_self l]
theorem bl_asymm : ∀ l m, bytesLess l m = true → bytesLess m l = false
  | [], [], h => by simp [bytesLess] at h
  | [], _ :: _, _ => rfl
  | _ :: _, [], h => by simp [bytesLess] at h
  | x :: l, y :: m, h => by
    simp only [bytesLess, Bool.or_eq_true, decide_eq_true_eq, Bool.and_eq_true, beq_iff_eq] at h
    simp only [bytesLess, Bool.or_eq_false_iff, decide_eq_false_iff_not, Bool.and_eq_false_iff]
    rcases h with h | ⟨rfl, h⟩
    · have h' := UInt8.lt_iff_toNat_lt.1 h
      refine ⟨fun g => ?_, .inl ?_⟩
      · have g' := UInt8.lt_iff_toNat_lt.1 g; omega
      · rw [beq_eq_false_iff_ne]; rintro rfl; omega
    · refine ⟨fun g => ?_, .inr (bl_asymm l m h)⟩
      have g' := UInt8.lt_iff_toNat_lt.1 g; omega
theorem bl_pre : ∀ p l m, bytesLess (p ++ l) (p ++ m) = bytesLess l m
  | [], _, _ => rfl
  | x :: p, l, m => by simp [bytesLess, bl_pre p l m]
theorem bl_first (x y : UInt8) (l m : List UInt8) (h : x.toNat < y.toNat) : bytesLess (x :: l) (y :: m) = true := by
  simp [bytesLess, UInt8.lt_iff_toNat_lt, h]
theorem bl_second (x y z : UInt8) (l m : List UInt8) (h : x.toNat < y.toNat) : bytesLess (z :: x :: l) (z :: y :: m) = true := by
  simp [bytesLess, UInt8.lt_iff_toNat_lt, h]
theorem less_of : ∀ (L M : List Nat), (∀ x ∈ L, kindN x ≠ 4) → (∀ x ∈ M, kindN x ≠ 4) → cmpL L M = -1 → bytesLess (encs L) (encs M) = true
  | [], [], _, _, h => by simp [cmpL] at h
  | [], y :: M, _, _, _ => by
    rw [encs_nil, encs_cons]
    have := enc_pos y
    cases he : enc y with
    | nil => rw [he] at this; simp at this
    | cons c r => rfl
  | _ :: _, [], _, _, h => by simp [cmpL] at h
  | x :: L, y :: M, hL, hM, h => by
    have hx := kind_form x (hL x (by simp))
    have hy := kind_form y (hM y (by simp))
    rw [encs_cons, encs_cons]
    simp only [cmpL] at h
    split at h
    · rename_i hlt
      rcases hx with hx | hx
      · have ex : enc x = [UInt8.ofNat x] := by unfold enc; rw [if_pos hx]
        rcases hy with hy | hy
        · have ey : enc y = [UInt8.ofNat y] := by unfold enc; rw [if_pos hy]
          rw [ex, ey]
          exact bl_first _ _ _ _ (by rw [u8 x (by omega), u8 y (by omega)]; exact hlt)
        · have ey : enc y = [UInt8.ofNat (192 + y / 64), UInt8.ofNat (128 + y % 64)] := by unfold enc; rw [if_neg (by omega)]
          rw [ex, ey]
          exact bl_first _ _ _ _ (by rw [u8 x (by omega), u8 (192 + y / 64) (by omega)]; omega)
      · have ex : enc x = [UInt8.ofNat (192 + x / 64), UInt8.ofNat (128 + x % 64)] := by unfold enc; rw [if_neg (by omega)]
        rcases hy with hy | hy
        · omega
        · have ey : enc y = [UInt8.ofNat (192 + y / 64), UInt8.ofNat (128 + y % 64)] := by unfold enc; rw [if_neg (by omega)]
          rw [ex, ey]
          by_cases hq : x / 64 < y / 64
          · exact bl_first _ _ _ _ (by rw [u8 (192 + x / 64) (by omega), u8 (192 + y / 64) (by omega)]; omega)
          · have hq2 : x / 64 = y / 64 := by omega
            rw [hq2]
            exact bl_second _ _ _ _ _ (by rw [u8 (128 + x % 64) (by omega), u8 (128 + y % 64) (by omega)]; omega)
    · split at h
      · simp at h
      · have hxy : x = y := by omega
        subst hxy
        rw [bl_pre]
        exact less_of L M (fun z hz => hL z (by simp [hz])) (fun z hz => hM z (by simp [hz])) h
theorem eq_of : ∀ (L M : List Nat), cmpL L M = 0 → L = M
  | [], [], _ => rfl
  | [], _ :: _, h => by simp [cmpL] at h
  | _ :: _, [], h => by simp [cmpL] at h
  | x :: L, y :: M, h => by
    simp only [cmpL] at h
    split at h
    · simp at h
    · split at h
      · simp at h
      · rw [eq_of L M h, show x = y by omega]
/-- Names stand as their bytes do. -/
theorem names_stand (a b : ByteArray) (ha : fitL (runes a 0) = true) (hb : fitL (runes b 0) = true) :
    (cmpL (runes a 0) (runes b 0) = -1 ∧ bytesLess a.toList b.toList = true ∧ (bytesLess a.toList b.toList || a.toList == b.toList) = true) ∨
    (cmpL (runes a 0) (runes b 0) = 0 ∧ bytesLess a.toList b.toList = false ∧ (bytesLess a.toList b.toList || a.toList == b.toList) = true) ∨
    (cmpL (runes a 0) (runes b 0) = 1 ∧ bytesLess a.toList b.toList = false ∧ (bytesLess a.toList b.toList || a.toList == b.toList) = false) := by
  have ka := fit_kind _ ha
  have kb := fit_kind _ hb
  have ea : a.toList = encs (runes a 0) := by
    have h := congrArg ByteArray.toList (name_bytes a ha); rwa [str_toList] at h
  have eb : b.toList = encs (runes b 0) := by
    have h := congrArg ByteArray.toList (name_bytes b hb); rwa [str_toList] at h
  rw [ea, eb]
  have hs := cmpL_swap (runes a 0) (runes b 0)
  have hr := cmpL_range (runes a 0) (runes b 0)
  generalize runes a 0 = L at *
  generalize runes b 0 = M at *
  rcases hr with h | h | h
  · have hl := less_of L M ka kb h
    exact .inl ⟨h, hl, by rw [hl]; rfl⟩
  · have := eq_of L M h
    subst this
    exact .inr (.inl ⟨h, bl_self _, by simp⟩)
  · have hl := less_of M L kb ka (by rw [hs, h])
    have hl2 := bl_asymm _ _ hl
    refine .inr (.inr ⟨h, hl2, ?_⟩)
    rw [hl2, Bool.false_or, beq_eq_false_iff_ne]
    intro he
    rw [he, bl_self] at hl
    exact Bool.noConfusion hl
end Go.Proofs.YtkkbccaggnodhaaDoor.Label
