/-
  The contracts of the document's own Of, Seal and Open, and of the program's Seal: they answer the plain mathematics' bytes. Condition: no more than 1,000,000 bytes.
-/
import Derived.Test.YtbckpcofcgapdaaStampSum
namespace Go.Proofs.Ytbckpcofcgapdaa.Stamp
open Go.RowKit
set_option linter.unusedVariables false
set_option maxHeartbeats 800000 in
set_option maxRecDepth 100000 in
theorem refOf_any (l : List UInt8) (w : World) (hn : l.length ≤ 1099511627776) :
   Calls Try.prog 34 #[.string (str l)] w fun e w' => e = .returned (.int .i64 (sum l : Nat)) ∧ w = w' := by
  have hsz1 : l.length ≤ (str l).size := by rw [str_size]; omega
  have hsz2 : (str l).size ≤ l.length := by rw [str_size]; omega
  go_enter Try.func34, Try.ntmps34
  go_wp2
  go_loop [3, 4] (fun t u => ∃ i : Nat, i ≤ l.length ∧ u = .int .i64 (i : Int) ∧ t = .int .i64 (sum (l.take i) : Nat)) (fun _ u => l.length - (intOf u).toNat)
  case atStart => exact ⟨0, by omega, rfl, rfl⟩
  case round =>
    obtain ⟨i, hi, rfl, rfl⟩ := hrel
    have hlt := sum_lt (l.take i)
    by_cases hc : i < l.length
    · obtain ⟨z, hz⟩ : ∃ z, l[i]? = some z := ⟨l[i], by simp [hc]⟩
      obtain ⟨hii, hgi⟩ := str_get l i z hz
      have hzl := z.toNat_lt
      have hx : (sum (l.take i) % 256) ^^^ z.toNat < 2 ^ 8 := Nat.xor_lt_two_pow (by omega) (by omega)
      have Hst : Hid ((sum (l.take i) - sum (l.take i) % 256 + ((sum (l.take i) % 256) ^^^ z.toNat)) * 16777619 % 4294967296 = sum (l.take (i + 1))) := hide (by
        rw [take_snoc' l i z hz, show sum (l.take i ++ [z]) = step (sum (l.take i)) z.toNat from on_snoc _ _ _, step_low _ _ z.toNat_lt, step])
      have HX := hide (xor_any (sum (l.take i) % 256) z.toNat w (by omega) hzl)
      clear hz
      generalize sum (l.take i) = s at *
      obtain ⟨x, hx2⟩ : ∃ x, x = (s % 256) ^^^ z.toNat := ⟨_, rfl⟩
      rw [← hx2] at HX Hst hx
      clear hx2
      have hx3 : x < 256 := hx
      clear hx
      go_wp2_with (first
        | (go_at_call 40
           refine HX.out.mono ?_
           rintro e w1 ⟨rfl, rfl⟩))
      go_round
      case rel => exact ⟨i + 1, by omega, by go_num, by rw [← Hst.out]; exact ret_i (by omega)⟩
      case measure => simp [intOf]; omega
    · go_wp2
      go_ret
      exact ⟨by rw [List.take_of_length_le (by omega)]; rfl, rfl⟩
theorem conv4 (W : World) (z0 z1 z2 z3 : Int) : (convert 22 9 (.slice (some ⟨W.heap.size, 0, none⟩) 4 4)).run Try.prog (W.alloc (.cells #[.int .u8 z0, .int .u8 z1, .int .u8 z2, .int .u8 z3] 5)) = .ok (.string (strOfNums [z0, z1, z2, z3])) (W.alloc (.cells #[.int .u8 z0, .int .u8 z1, .int .u8 z2, .int .u8 z3] 5)) :=
  conv_new W [z0, z1, z2, z3] 4
theorem strOfNums_four (n : Nat) (z0 z1 z2 z3 : Int) (h0 : z0.toNat % 256 = n / 16777216 % 256) (h1 : z1.toNat % 256 = n / 65536 % 256) (h2 : z2.toNat % 256 = n / 256 % 256) (h3 : z3.toNat % 256 = n % 256) :
    strOfNums [z0, z1, z2, z3] = str (four n) := by
  have e : ∀ (z : Int) (m : Nat), z.toNat % 256 = m % 256 → UInt8.ofNat z.toNat = UInt8.ofNat m := by
    intro z m h
    apply UInt8.toNat_inj.1
    rw [ofNat_toNat, ofNat_toNat, h]
  apply ByteArray.ext
  simp only [strOfNums, str, four, List.map_cons, List.map_nil]
  rw [e z0 _ h0, e z1 _ h1, e z2 _ h2, e z3 _ h3]
set_option maxHeartbeats 800000 in
set_option maxRecDepth 100000 in
theorem refSeal_any (l : List UInt8) (w : World) (hn : l.length ≤ 1000000) :
   Calls Try.prog 21 #[.string (str l)] w fun e w' => e = .returned (.string (str (seal_ l))) ∧ Below w.heap.size w w' := by
  have HO := hide (refOf_any l w (by omega))
  have hlt := sum_lt l
  have hsz : (str l).size ≤ 1000000 := by rw [str_size]; exact hn
  have hs4 : ∀ z0 z1 z2 z3 : Int, (strOfNums [z0, z1, z2, z3]).size ≤ 4 := by intro z0 z1 z2 z3; rw [strOfNums_size]; simp
  have hcv := conv4 w
  have Hse : Hid (str l ++ str (four (sum l)) = str (seal_ l)) := hide (str_append _ _)
  generalize sum l = s at *
  have h4 := hs4 ((s : Int) / 16777216) ((s : Int) / 65536 % 256) ((s : Int) / 256 % 256) ((s : Int) % 256)
  clear hs4
  go_enter Try.func21, Try.ntmps21
  go_wp2_with (first
    | (go_at_call 34
       refine HO.out.mono ?_
       rintro e w1 ⟨rfl, rfl⟩))
  go_ret
  exact ⟨by rw [← Hse.out, strOfNums_four s _ _ _ _ (by omega) (by omega) (by omega) (by omega)]; rfl, (Below.refl _ _).alloc (Nat.le_refl _) _⟩
end Go.Proofs.Ytbckpcofcgapdaa.Stamp
