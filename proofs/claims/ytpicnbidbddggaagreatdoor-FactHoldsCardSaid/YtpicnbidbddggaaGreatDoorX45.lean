/-
  Some texts of this claim, one behind the other: FactRef1, FactShort, FactHeld. What each proves, and its condition, stands at its head.
-/
import Derived.Test.YtpicnbidbddggaaGreatDoorX34
import Derived.Test.YtpicnbidbddggaaGreatDoorX44
import Derived.Test.YtpicnbidbddggaaGreatDoorX36
import Derived.Test.YtpicnbidbddggaaGreatDoorX12
import Derived.Test.YtpicnbidbddggaaGreatDoorX38
import Derived.Test.YtpicnbidbddggaaGreatDoorX31
import Derived.Test.YtpicnbidbddggaaGreatDoorX25
/-
  Contracts of the document's own Asked, Released and Needed of facts. Condition: needs that may be; an index that was put together.
-/
namespace Go.Proofs.YtpicnbidbddggaaGreatDoor.Fact
open Go Go.RowKit Go.Lib Go.Proofs.YtpicnbidbddggaaGreatDoor.Span Go.Proofs.YtpicnbidbddggaaGreatDoor.Need Go.Proofs.YtpicnbidbddggaaGreatDoor.Mani Go.Proofs.YtpicnbidbddggaaGreatDoor.Index Go.Proofs.YtpicnbidbddggaaGreatDoor.Grow Go.Proofs.YtpicnbidbddggaaGreatDoor.Term Go.Proofs.YtpicnbidbddggaaGreatDoor.Clash Go.Proofs.YtpicnbidbddggaaGreatDoor.Fit
open Go.Proofs.YtpicnbidbddggaaGreatDoor.Label (runes fitL)
set_option linter.unusedVariables false
theorem rls_on {w : World} {B n c : Nat} {A : Option Addr} {rs : List Vr} {l : List Rl} (h : Rls w B (.slice A n c) n rs l) : RlOn w A n l := by
  obtain ⟨A1, c1, e, _, hT⟩ := h.told
  injection e with e1 e2 e3
  rw [← e1] at hT
  exact hT
theorem one_tmR (w : World) (nm : ByteArray) (A : Option Addr) (n c : Nat) (z : Bool) {s : List S} (h : InS w 0 A n s) (g : Nat) (hg : g = w.heap.size) :
    TmR (w.alloc (.cells #[.string nm, .slice A n c, .bool z] 63)) (w.alloc (.cells #[.string nm, .slice A n c, .bool z] 63)).heap.size (some ⟨g, 0, none⟩) 1 [⟨nm, s, z⟩] := by
  subst hg
  have hT : TmsR (w.alloc (.cells #[.string nm, .slice A n c, .bool z] 63)) w.heap.size (.slice (some ⟨w.heap.size, 0, none⟩) 1 1) 1 [(nm, .slice A n c, z)] [⟨nm, s, z⟩] := ⟨own_one w nm A n c z _ (Nat.le_refl _), AllT.one (h.below (alloc_b _))⟩
  obtain ⟨A1, c1, e, _, hR⟩ := hT.told
  injection e with e1 e2 e3
  rw [← e1] at hR
  exact hR
theorem own_two (w : World) (nm : ByteArray) (A : Option Addr) (n c : Nat) (z : Bool) (nm' : ByteArray) (A' : Option Addr) (n' c' : Nat) (z' : Bool) (B : Nat) (hB : B ≤ w.heap.size) :
    (w.alloc (.cells #[.string nm, .slice A n c, .bool z, .string nm', .slice A' n' c', .bool z'] 63)).ownsRow B 63 3 (.slice (some ⟨w.heap.size, 0, none⟩) 2 2) 2 (tms [(nm, .slice A n c, z), (nm', .slice A' n' c', z')]) :=
  ⟨rfl, .inr ⟨w.heap.size, 2, _, rfl, hB, heap_alloc_new w _, Nat.le_refl _, by decide, rfl, rfl⟩⟩
theorem two_tmR (w : World) (nm : ByteArray) (A : Option Addr) (n c : Nat) (z : Bool) (nm' : ByteArray) (A' : Option Addr) (n' c' : Nat) (z' : Bool) {s s' : List S} (h : InS w 0 A n s) (h' : InS w 0 A' n' s') (g : Nat) (hg : g = w.heap.size) :
    TmR (w.alloc (.cells #[.string nm, .slice A n c, .bool z, .string nm', .slice A' n' c', .bool z'] 63)) (w.alloc (.cells #[.string nm, .slice A n c, .bool z, .string nm', .slice A' n' c', .bool z'] 63)).heap.size (some ⟨g, 0, none⟩) 2 [⟨nm, s, z⟩, ⟨nm', s', z'⟩] := by
  subst hg
  have hb := alloc_b (w := w) (.cells #[.string nm, .slice A n c, .bool z, .string nm', .slice A' n' c', .bool z'] 63)
  have hT : TmsR (w.alloc (.cells #[.string nm, .slice A n c, .bool z, .string nm', .slice A' n' c', .bool z'] 63)) w.heap.size (.slice (some ⟨w.heap.size, 0, none⟩) 2 2) 2 ([(nm, .slice A n c, z)] ++ [(nm', .slice A' n' c', z')]) ([⟨nm, s, z⟩] ++ [⟨nm', s', z'⟩]) := ⟨own_two w nm A n c z nm' A' n' c' z' _ (Nat.le_refl _), (AllT.one (h.below hb)).append (AllT.one (h'.below hb))⟩
  obtain ⟨A1, c1, e, _, hR⟩ := hT.told
  injection e with e1 e2 e3
  rw [← e1] at hR
  exact hR
theorem at_nil {X : List Kn} {nm : ByteArray} (h : atX X nm = none) : releasedC X nm = none := by unfold releasedC; rw [h]
theorem at_get {X : List Kn} {nm : ByteArray} {k : Kv} (h : atX X nm = some k) : getX X nm = k := by unfold getX; rw [h]; rfl
theorem released_ok {X : List Kn} (hX : OkX X) {nm : ByteArray} {k : Kv} (h : atX X nm = some k) : okT ⟨nm, notS (versS k.1), false⟩ = true ∧ (notS (versS k.1)).length ≤ 31 ∧ k.1.length ≤ 30 ∧ FineR k.1 := by
  have hf := hX.fine.get nm
  rw [at_get h] at hf
  have h1 := vers_len k.1
  have h2 := not_len (vers_set k.1)
  have h3 := hf.1
  exact ⟨one_ok (known_fit hX.fits h) (nf_set _), by omega, h3, hf⟩
theorem needed_ok1 {X : List Kn} (hX : OkX X) {nm tn : ByteArray} {v : Int} {r : Rl} {s : List S} (h : relX X nm v = some r) (hs : findS r.2 tn = some s) :
    (0 ≤ v ∧ v < 1000000000) ∧ okT ⟨nm, atS v, false⟩ = true ∧ okT (unmetT tn s) = true ∧ (unmetT tn s).set.length ≤ 7 ∧ s.length ≤ 6 := by
  obtain ⟨k, hk, hr, hv⟩ := rel_known h
  have hin := atX_in hk
  have hver := hX.vers _ hin r hr
  rw [hv] at hver
  have hok : okS r.2 = true := hX.sets _ hin r hr
  obtain ⟨ho, _, _, hsets⟩ := okS_parts hok
  have hq := find_in hs
  have hset : isSet (-1) s = true ∧ s.length ≤ 6 := hsets _ hq
  refine ⟨hver, one_ok (known_fit hX.fits hk) ?_, unmet_ok s (ok_all ho _ hq).2.1, unmet_len hset.1 hset.2, hset.2⟩
  rw [← at_one hver.1 hver.2]
  exact nf_set _
end Go.Proofs.YtpicnbidbddggaaGreatDoor.Fact
/-
  How long facts are. No program but as a name of what may be walked.
-/
namespace Go.Proofs.YtpicnbidbddggaaGreatDoor.Fact
open Go Go.RowKit Go.Lib Go.Proofs.YtpicnbidbddggaaGreatDoor.Label Go.Proofs.YtpicnbidbddggaaGreatDoor.Span Go.Proofs.YtpicnbidbddggaaGreatDoor.Need Go.Proofs.YtpicnbidbddggaaGreatDoor.Mani Go.Proofs.YtpicnbidbddggaaGreatDoor.Wire Go.Proofs.YtpicnbidbddggaaGreatDoor.Depot Go.Proofs.YtpicnbidbddggaaGreatDoor.Index Go.Proofs.YtpicnbidbddggaaGreatDoor.Reach Go.Proofs.YtpicnbidbddggaaGreatDoor.Pick Go.Proofs.YtpicnbidbddggaaGreatDoor.Fit Go.Proofs.YtpicnbidbddggaaGreatDoor.Term Go.Proofs.YtpicnbidbddggaaGreatDoor.Clash
set_option linter.unusedVariables false
def FinC (c : List Tm) : Prop := ShortT c ∧ c.length ≤ 1000 ∧ ∀ t ∈ c, isSet (-1) t.set = true
theorem FinC.nil : FinC [] := ⟨(fun t ht => by cases ht), by simp, (fun t ht => by cases ht)⟩
theorem make_len {l m : List Tm} (h : makeC l = some m) : m.length ≤ l.length := by
  unfold makeC at h
  split at h
  · cases h
  · injection h with h
    rw [← h]
    have h1 : ((putsC l).filter fun t => !fullT t).length ≤ (putsC l).length := List.length_filter_le _ _
    have h2 := puts_length l l.length (Nat.le_refl _)
    rw [List.take_length] at h2
    omega
theorem fin_make {l : List Tm} (hl : ∀ t ∈ l, okT t = true) (hn : l.length ≤ 2) : FinC ((makeC l).getD []) := by
  cases h : makeC l with
  | none => exact FinC.nil
  | some m =>
    have ho := make_ok hl h
    have hm := make_len h
    exact ⟨fun t ht => len_le (okT_set (ho.2 t ht).1), by show m.length ≤ 1000; omega, fun t ht => okT_set (ho.2 t ht).1⟩
theorem fin_asked {root : List Nd} (hok : okS root = true) (nm : ByteArray) : FinC ((askedC root nm).getD []) := by
  unfold askedC
  cases h : findS root nm with
  | none => exact FinC.nil
  | some s => exact fin_make (fun t ht => by rw [List.mem_singleton.1 ht]; exact unmet_ok s (ok_all (okS_parts hok).1 _ (find_in h)).2.1) (by simp)
theorem fin_released {X : List Kn} (hX : OkX X) (nm : ByteArray) : FinC ((releasedC X nm).getD []) := by
  unfold releasedC
  cases h : atX X nm with
  | none => exact FinC.nil
  | some k => exact fin_make (fun t ht => by rw [List.mem_singleton.1 ht]; exact (released_ok hX h).1) (by simp)
theorem fin_needed {X : List Kn} (hX : OkX X) (nm : ByteArray) (v : Int) (tn : ByteArray) : FinC ((neededC X nm v tn).getD []) := by
  unfold neededC
  cases h : relX X nm v with
  | none => exact FinC.nil
  | some r =>
    simp only
    cases hs : findS r.2 tn with
    | none => exact FinC.nil
    | some s =>
      obtain ⟨_, h1, h2, _, _⟩ := needed_ok1 hX h hs
      exact fin_make (fun t ht => by
        rcases List.mem_cons.1 ht with rfl | ht
        · exact h1
        · rw [List.mem_singleton.1 ht]; exact h2) (by simp)
theorem fin_root {root : List Nd} (hok : okS root = true) : ∀ c ∈ (rootP root).map Prod.fst, FinC c := by
  rw [root_fst]
  intro c hc
  obtain ⟨q, hq, rfl⟩ := List.mem_map.1 hc
  exact fin_asked hok q.1
theorem fin_all {X : List Kn} (hX : OkX X) (nm : ByteArray) : ∀ c ∈ (allP X nm).map Prod.fst, FinC c := by
  rw [all_fst]
  intro c hc
  rcases all_cases hc with h | ⟨r, hr, q, hq, h⟩
  · have := fin_released hX nm
    rw [h] at this
    exact this
  · have := fin_needed hX nm r.1 q.1
    rw [h] at this
    exact this
theorem root_len (root : List Nd) : (rootP root).length = root.length := asked_len root root
theorem all_len {X : List Kn} (hX : OkX X) (nm : ByteArray) : (allP X nm).length ≤ 1300 := by
  unfold allP
  split
  · have hf := hX.fine.get nm
    have h1 := rels_len X nm (getX X nm).1 fun r hr => (hf.2 r hr).1
    have h2 := hf.1
    rw [List.length_cons]
    omega
  · simp
end Go.Proofs.YtpicnbidbddggaaGreatDoor.Fact
/-
  The contract of the statements' own held: does one of some clashes hold of picks? Condition: facts of a length that may be walked.
-/
namespace Go.Proofs.YtpicnbidbddggaaGreatDoor.Fact
open Go Go.RowKit Go.Lib Go.Proofs.YtpicnbidbddggaaGreatDoor.Span Go.Proofs.YtpicnbidbddggaaGreatDoor.Need Go.Proofs.YtpicnbidbddggaaGreatDoor.Pick Go.Proofs.YtpicnbidbddggaaGreatDoor.Term Go.Proofs.YtpicnbidbddggaaGreatDoor.Clash
set_option linter.unusedVariables false
theorem any_dropF {α : Type} {f : α → Bool} {l : List α} {t : α} {i : Nat} (h : l[i]? = some t) : (l.drop i).any f = (f t || (l.drop (i + 1)).any f) := by
  obtain ⟨hi, e⟩ := List.getElem?_eq_some_iff.1 h
  rw [List.drop_eq_getElem_cons hi, e]
  rfl
def heldB (k : List Pk) (L : List (List Tm)) : Bool := L.any fun c => holdsC (getP k) c
set_option maxHeartbeats 8000000 in
set_option maxRecDepth 100000 in
theorem held_any (L : List (List Tm)) (k : List Pk) (A Ak : Option Addr) (n c nk ck : Nat) (w : World) (h : FcOn w A n L) (hk : PkOn w Ak nk k) (hL : ∀ c ∈ L, FinC c) (hn : n ≤ 100000) (hnk : nk ≤ 1000000) :
    Calls Tryz.prog 13 #[.slice A n c, .slice Ak nk ck] w fun e w' => e = .returned (.bool (heldB k L)) ∧ Below w.heap.size w w' := by
  have hlen := hide (FcIn.len h)
  have Hd := hide (fun i t => @any_dropF _ (fun c => holdsC (getP k) c) L t i)
  obtain ⟨F, hF⟩ : ∃ F, F = heldB k L := ⟨_, rfl⟩
  rw [← hF]
  have HF : Hid (F = (L.drop 0).any fun c => holdsC (getP k) c) := hide hF
  have Hend : Hid ((L.drop n).any (fun c => holdsC (getP k) c) = false) := hide (by rw [List.drop_of_length_le (by have := hlen.out; omega)]; rfl)
  clear hF
  go_enter Tryz.func13, Tryz.ntmps13
  go_wp2
  go_loopw [5] (fun v wr => ∃ i : Nat, i ≤ n ∧ v = .int .i64 (i : Int) ∧ Hid (F = (L.drop i).any fun c => holdsC (getP k) c) ∧ Below w.heap.size w wr) (fun v _ => n - (RowKit.intOf v).toNat)
  case atStart => exact ⟨0, by omega, rfl, HF, Below.refl _ _⟩
  case round =>
    obtain ⟨i, hi, rfl, hf, hb⟩ := hrel
    have hbs := hb.size
    by_cases hlt : i < n
    · obtain ⟨ad, t, A', n', c', rfl, hbl, hx, ht, p1⟩ := FcIn.at_ (FcIn.below h hb) hlt
      have hfin := hL t (List.mem_of_getElem? hx)
      have hd := hf.out.trans (Hd.out i t hx)
      have hTm := ht.more hbs
      have HC := hide (refHoldsC_any t k A' Ak n' c' nk ck wr hTm (hk.on hb) hfin.2.2 (by have := TmIn.len hTm; have := hfin.2.1; omega) hnk)
      have hi1 : (0 : Int) ≤ (i : Int) := by omega
      have hi2 : (i : Int) < (n : Int) := by omega
      clear hx ht hTm hf Hd Hend HF h hk hL hfin
      generalize holdsC (getP k) t = y at *
      cases y with
      | true =>
        have e : Hid (F = true) := hide (by rw [hd]; rfl)
        clear hd
        go_wp2_with (first
          | (go_at_call 29
             refine HC.out.mono ?_
             rintro e w1 ⟨rfl, hb1⟩))
        go_ret
        exact ⟨by rw [e.out]; rfl, hb.trans (hb1.mono hbs)⟩
      | false =>
        have e : Hid (F = (L.drop (i + 1)).any fun c => holdsC (getP k) c) := hide (by rw [hd]; rfl)
        clear hd
        go_wp2_with (first
          | (go_at_call 29
             refine HC.out.mono ?_
             rintro e w1 ⟨rfl, hb1⟩))
        go_roundw
        case rel => exact ⟨i + 1, by omega, by go_num, e, hb.trans (hb1.mono hbs)⟩
        case measure => simp [RowKit.intOf]; omega
    · have hi2 : i = n := by omega
      have e : Hid (F = false) := hide (by rw [hf.out, hi2]; exact Hend.out)
      clear hf HF Hd Hend h hL
      go_wp2
      go_ret
      exact ⟨by rw [e.out]; rfl, hb⟩
end Go.Proofs.YtpicnbidbddggaaGreatDoor.Fact
