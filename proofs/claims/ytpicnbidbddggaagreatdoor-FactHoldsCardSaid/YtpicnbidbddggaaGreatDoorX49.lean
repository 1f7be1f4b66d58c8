/-
  Some texts of this claim, one behind the other: FactSeq. What each proves, and its condition, stands at its head.
-/
import Derived.Test.YtpicnbidbddggaaGreatDoorX42
import Derived.Test.YtpicnbidbddggaaGreatDoorX46
import Derived.Test.YtpicnbidbddggaaGreatDoorX48
import Derived.Test.YtpicnbidbddggaaGreatDoorX45
/-
  The contracts of the program's iterators over facts: root's, and a package's. Condition: needs that may be; what an index holds that was put together.
-/
namespace Go.Proofs.YtpicnbidbddggaaGreatDoor.Fact
open Go Go.RowKit Go.Lib Go.Sort Go.Proofs.YtpicnbidbddggaaGreatDoor.Span Go.Proofs.YtpicnbidbddggaaGreatDoor.Need Go.Proofs.YtpicnbidbddggaaGreatDoor.Mani Go.Proofs.YtpicnbidbddggaaGreatDoor.Index Go.Proofs.YtpicnbidbddggaaGreatDoor.Grow Go.Proofs.YtpicnbidbddggaaGreatDoor.Term Go.Proofs.YtpicnbidbddggaaGreatDoor.Clash Go.Proofs.YtpicnbidbddggaaGreatDoor.Fit
open Go.Proofs.YtpicnbidbddggaaGreatDoor.Plain (Rounds range_box only_none)
open Go.Proofs.YtpicnbidbddggaaGreatDoor.Label (runes fitL)
set_option linter.unusedVariables false
attribute [local go_sem] Oper.semAt_some
/-! Which fact stands where. -/
theorem root_at {root : List Nd} (hok : okS root = true) {i : Nat} {q : Nd} (h : root[i]? = some q) : ∃ c, makeC [unmetT q.1 q.2] = some c ∧ (rootP root)[i]? = some (c, askedStep q.1) := by
  obtain ⟨c, hc⟩ := unmet_some q.1 q.2
  refine ⟨c, hc, ?_⟩
  unfold rootP askedP
  rw [List.getElem?_map, h]
  show some ((askedC root q.1).getD [], askedStep q.1) = _
  unfold askedC
  rw [find_mem (okS_parts hok).2.2.1 (List.mem_of_getElem? h)]
  simp only []
  rw [hc]
  rfl
theorem needed_is {X : List Kn} (hX : OkX X) {nm : ByteArray} {k : Kv} (hk : atX X nm = some k) {r : Rl} (hr : r ∈ k.1) {q : Nd} (hq : q ∈ r.2) :
    neededC X nm r.1 q.1 = makeC [⟨nm, atS r.1, false⟩, unmetT q.1 q.2] ∧ (0 ≤ r.1 ∧ r.1 < 1000000000) ∧ okT ⟨nm, atS r.1, false⟩ = true ∧ okT (unmetT q.1 q.2) = true ∧ (unmetT q.1 q.2).set.length ≤ 7 ∧ isSet (-1) q.2 = true := by
  have hin := atX_in hk
  have hrel : relX X nm r.1 = some r := by
    unfold relX
    rw [at_get hk]
    exact getR_of (hX.rise _ hin) hr
  have hok : okS r.2 = true := hX.sets _ hin r hr
  have hf := find_mem (okS_parts hok).2.2.1 hq
  obtain ⟨h1, h2, h3, h4, h5⟩ := needed_ok1 (tn := q.1) hX hrel hf
  have hset : isSet (-1) q.2 = true ∧ q.2.length ≤ 6 := (okS_parts hok).2.2.2 _ hq
  refine ⟨?_, h1, h2, h3, h4, hset.1⟩
  unfold neededC
  rw [hrel]
  simp only []
  rw [hf]
theorem rels_at {X : List Kn} {nm : ByteArray} {l : List Rl} {j i : Nat} {r : Rl} {q : Nd} {c : List Tm} (h : l[j]? = some r) (hi : r.2[i]? = some q) (hc : neededC X nm r.1 q.1 = some c) :
    (relsP X nm l)[(relsP X nm (l.take j)).length + (neededP X nm r.1 (r.2.take i)).length]? = some (c, neededStep nm r.1 q.1) := by
  obtain ⟨hj, e⟩ := List.getElem?_eq_some_iff.1 h
  obtain ⟨hi2, e2⟩ := List.getElem?_eq_some_iff.1 hi
  have h1 : relsP X nm l = relsP X nm (l.take j) ++ (neededP X nm r.1 r.2 ++ relsP X nm (l.drop (j + 1))) := by
    conv => lhs; rw [← List.take_append_drop j l, List.drop_eq_getElem_cons hj, e]
    unfold relsP
    rw [List.flatMap_append, List.flatMap_cons]
  have h2 : neededP X nm r.1 r.2 = neededP X nm r.1 (r.2.take i) ++ ((c, neededStep nm r.1 q.1) :: neededP X nm r.1 (r.2.drop (i + 1))) := by
    conv => lhs; rw [← List.take_append_drop i r.2, List.drop_eq_getElem_cons hi2, e2]
    unfold neededP
    rw [List.filterMap_append, List.filterMap_cons, hc]
    rfl
  rw [h1, List.getElem?_append_right (by omega), Nat.add_sub_cancel_left, h2, List.append_assoc, List.getElem?_append_right (by omega), Nat.sub_self]
  rfl
theorem fine_two {a b : Tm} (ha : okT a = true) (hb : okT b = true) (h1 : a.set.length ≤ 10) (h2 : b.set.length ≤ 10) : FineC [a, b] := by
  refine ⟨by simp, ?_, fun t ht => ?_⟩
  · rw [sumC_cons, sumC_cons]
    show _ + (_ + 0) ≤ _
    omega
  · rcases List.mem_cons.1 ht with rfl | ht
    · have := Label.fit_small t.name (okT_fit ha); omega
    · rw [List.mem_singleton.1 ht]
      have := Label.fit_small b.name (okT_fit hb); omega
theorem fine_one1 {a : Tm} (ha : okT a = true) (h1 : a.set.length ≤ 100) : FineC [a] := by
  refine ⟨by simp, ?_, fun t ht => ?_⟩
  · rw [sumC_cons]
    show _ + 0 ≤ _
    omega
  · rw [List.mem_singleton.1 ht]
    have := Label.fit_small a.name (okT_fit ha); omega
theorem ofRootF_any (A : Option Addr) (n c : Nat) (w : World) :
    Calls Tryz.prog 28 #[.slice A n c] w fun e w' => e = .returned (.func (.func 49) #[] #[.pointer (some ⟨w.heap.size, 0, none⟩)]) ∧ w' = w.alloc (.cells #[.slice A n c] 23) := by
  have hmf : ∀ (fn : Fn) (first cap : Array Value) (w : World), (Instr.makeFunc fn first cap).run Tryz.prog w = .ok (.func fn first cap) w := fun _ _ _ _ => rfl
  go_enter Tryz.func28, Tryz.ntmps28
  go_wp2
  go_ret
  exact ⟨rfl, rfl⟩
theorem ofPackF_any (nm : ByteArray) (A : Option Addr) (n c : Nat) (w : World) :
    Calls Tryz.prog 32 #[.agg #[.string nm, .slice A n c]] w fun e w' => e = .returned (.func (.func 56) #[] #[.pointer (some ⟨w.heap.size, 0, none⟩)]) ∧ w' = w.alloc (.cells #[.string nm, .slice A n c] 85) := by
  have hmf : ∀ (fn : Fn) (first cap : Array Value) (w : World), (Instr.makeFunc fn first cap).run Tryz.prog w = .ok (.func fn first cap) w := fun _ _ _ _ => rfl
  go_enter Tryz.func32, Tryz.ntmps32
  go_wp2
  go_ret
  exact ⟨rfl, rfl⟩
set_option maxRecDepth 100000 in
set_option maxHeartbeats 8000000 in
theorem root_rounds (root : List Nd) (A : Option Addr) (n c : Nat) (we w0 : World) (m : Nat) (hm : 3 ≤ m) (Br : Nat) (h0 : Below we.heap.size we w0) (hr : NdOn we A n root) (hn : n ≤ 40) (hok : okS root = true) (br : Boxed we Br 23 (.slice A n c)) :
    Rounds Fence.wide m Tryz.prog 49 #[.pointer (some ⟨Br, 0, none⟩)] (RdF (rootP root)) (KpF we.heap.size) n w0 := by
  intro ll J W hW hJ hY hJ0
  have hrl := hr.len
  have hbW : Below we.heap.size we W := h0.trans (hW.mono h0.size)
  have brW : Boxed W Br 23 (.slice A n c) := (hbW.block _ br.lt).trans br
  have HP := hide (fun (wx : World) (hx : Below we.heap.size we wx) (i : Nat) (hi : i < n) => NdIn.at_ (NdIn.below hr hx) hi)
  have HJ := hide hJ
  have HYs := hide hY
  have Hat := hide (fun (i : Nat) (q : Nd) (h : root[i]? = some q) => root_at hok h)
  have Hq := hide (fun (q : Nd) (hq : q ∈ root) => (show (isSet (-1) q.2 = true ∧ q.2.length ≤ 6) ∧ fitL (runes q.1 0) = true from ⟨(okS_parts hok).2.2.2 _ hq, (ok_all (okS_parts hok).1 _ hq).2.1⟩))
  have c1 := brW.cell
  clear hr hJ hY hok br brW hW h0
  refine callsIn_of_wp Tryz.func49 rfl trivial ?_ rfl
  simp only [Tryz.ntmps49, List.size_toArray, List.length_cons, List.length_nil, Nat.reduceAdd, Nat.reduceSub, Array.replicate_succ, Array.replicate_zero, List.push_toArray, List.append_toArray, List.nil_append, List.cons_append]
  gi_wp2
  clear c1
  gi_loopw [9] (fun p wr => ∃ (i : Nat), p = .int .i64 (i : Int) ∧ i ≤ n ∧ J i wr ∧ Below we.heap.size we wr) (fun p _ => n - (RowKit.intOf p).toNat)
  case atStart => exact ⟨0, rfl, Nat.zero_le _, hJ0, hbW⟩
  case round =>
    obtain ⟨i, rfl, hi, hJr, hbr⟩ := hrel
    clear hJ0 hbW
    by_cases hlt : i < n
    · obtain ⟨ad, q, A', n', c', rfl, hbl, hx, hss, p1, p2⟩ := HP.out wr hbr i hlt
      obtain ⟨hqs, hqf⟩ := Hq.out q (List.mem_of_getElem? hx)
      obtain ⟨C, hC, hCat⟩ := Hat.out i q hx
      have hnm := Label.fit_small q.1 hqf
      have hut := unmet_ok (n := q.1) q.2 hqf
      have hul := unmet_len (n := q.1) hqs.1 hqs.2
      have hset := hqs.1
      obtain ⟨x, s⟩ := q
      simp only [] at p1 p2 hnm hut hul hset hC hCat hss
      have hbs := hbr.size
      have HU := hide (fun (wx : World) (h : SpOn wx A' n' s) => unmetF_any x s A' n' c' wx h (by omega) hset)
      unfold Term.MakesT at HU
      have HM := hide (fun (wx : World) (Aq : Option Addr) (cq : Nat) (hq : TmR wx wx.heap.size Aq 1 [unmetT x s]) => makeR_any [unmetT x s] Aq 1 cq wx hq.in_ (fine_one1 hut (by omega)) (fun t ht => by rw [List.mem_singleton.1 ht]; exact hut))
      unfold MakesR at HM
      rw [hC] at HM
      have HS := hide (fun (wx : World) => stepF_any 1 x 0 ByteArray.empty wx (by omega) (by simp))
      have HCat := hide hCat
      generalize unmetT x s = U at *
      have hbA : Below wr.heap.size wr (wr.alloc (.cells #[.string x, .slice A' n' c'] 50)) := alloc_b _
      have hs1 : SpOn (wr.alloc (.cells #[.string x, .slice A' n' c'] 50)) A' n' s := (SpIn.more (hss.below (hbA.mono hbs)) (by simp; omega))
      have dn := Blk.new wr 50 #[.string x, .slice A' n' c']
      have k0 := dn.cell 0
      have k1 := dn.cell 1
      clear hx hss hC hCat hqs hqf hut hul hset
      gi_wp2_with (first
        | (refine ⟨trivial, fun _ => by omega, ?_⟩
           gi_at_call 40
           refine (callsIn_wide.2 (HU.out _ hs1)).mono ?_
           rintro e w2 ⟨A2, n2, c2, rfl, hN2, hb2⟩
           have hR2 := one_tmR w2 U.name A2 n2 c2 U.none (InS.of_new hN2) _ rfl
           have hb3 := hbA.trans (hb2.mono hbA.size)
           have hb4 := hb3.alloc hb3.size (.cells #[.string U.name, .slice A2 n2 c2, .bool U.none] 63))
        | (refine ⟨trivial, fun _ => by omega, ?_⟩
           gi_at_call 39
           refine (callsIn_wide.2 (HM.out _ _ _ hR2)).mono ?_
           rintro e w4 ⟨A4, n4, c4, rfl, h4, hb4x⟩
           have hb5 := hb4.trans (hb4x.mono hb4.size)
           have d5 := dn.below ((hb2.mono (by simp)).trans (((alloc_b (w := w2) (.cells #[.string U.name, .slice A2 n2 c2, .bool U.none] 63)).trans (hb4x.mono (by simp))).mono hb2.size)) (by simp)
           have k5 := d5.cell 0)
        | (refine ⟨trivial, fun _ => by omega, ?_⟩
           gi_at_call 50
           refine (callsIn_wide.2 (HS.out _)).mono ?_
           rintro e w6 ⟨rfl, hb6x⟩
           have hb6 := hb5.trans (hb6x.mono hb5.size)
           have h6 := TmR.on h4 hb6x
           obtain ⟨fn, tmps, assign, body, hy, hR⟩ := HYs.out i #[.slice A4 n4 c4, .agg #[.int .i64 1, .string x, .int .i64 0, .string ByteArray.empty, .int .i64 0, .int .i64 0]] w6 (HJ.out i _ _ hJr hb6) ⟨A4, n4, c4, C, askedStep x, rfl, HCat.out, h6⟩ (by omega)))
      refine ⟨fun _ => by omega, hR.mono ?_⟩
      rintro e W7 ⟨rfl, hJ7, hk7⟩
      have hb7 : Below we.heap.size we W7 := (hbr.trans (hb6.mono hbs)).trans hk7.1
      clear hy hR hk7
      gi_wp2
      go_roundw
      case rel => exact ⟨i + 1, by go_num, by omega, hJ7, hb7⟩
      case measure => simp [RowKit.intOf]; omega
    · have hi2 : i = n := by omega
      subst hi2
      gi_wp2
      go_end0
      exact ⟨⟨_, rfl⟩, hJr⟩
/-! A package's rounds. -/
theorem all_is {X : List Kn} (hX : OkX X) {nm : ByteArray} {k : Kv} (hk : atX X nm = some k) : ∃ c0, makeC [⟨nm, notS (versS k.1), false⟩] = some c0 ∧ allP X nm = (c0, releasedStep nm) :: relsP X nm k.1 := by
  obtain ⟨c0, h0⟩ := released_none hk (released_ok hX hk).2.2.1
  have e : releasedC X nm = makeC [⟨nm, notS (versS k.1), false⟩] := by unfold releasedC; rw [hk]
  refine ⟨c0, by rw [← e]; exact h0, ?_⟩
  unfold allP
  rw [h0, at_get hk]
set_option maxRecDepth 100000 in
set_option maxHeartbeats 16000000 in
theorem pack_rounds (X : List Kn) (nm : ByteArray) (k : Kv) (A : Option Addr) (n c : Nat) (we w0 : World) (m : Nat) (hm : 3 ≤ m) (Bm : Nat) (h0 : Below we.heap.size we w0) (hX : OkX X) (hk : atX X nm = some k) (hr : RlOn we A n k.1) (bm : Blk we Bm 85 #[.string nm, .slice A n c]) :
    Rounds Fence.wide m Tryz.prog 56 #[.pointer (some ⟨Bm, 0, none⟩)] (RdF (allP X nm)) (KpF we.heap.size) (allP X nm).length w0 := by
  intro ll J W hW hJ hY hJ0
  have hrl := hr.len
  obtain ⟨hok0, hl31, hk30, hfine⟩ := released_ok hX hk
  have hn : n ≤ 30 := by omega
  obtain ⟨C0, hC0, hall⟩ := all_is hX hk
  have hnm := Label.fit_small nm (known_fit hX.fits hk)
  have hver := hX.vers _ (atX_in hk)
  have hset0 := hX.sets _ (atX_in hk)
  have hbW : Below we.heap.size we W := h0.trans (hW.mono h0.size)
  have HP := hide (fun (wx : World) (hx : Below we.heap.size we wx) (i : Nat) (hi : i < n) => RlIn.at_ (RlIn.below hr hx) hi)
  have HJ := hide hJ
  have HYs := hide hY
  have Hall := hide hall
  have Hne := hide (fun (r : Rl) (hr : r ∈ k.1) (q : Nd) (hq : q ∈ r.2) => needed_is hX hk hr hq)
  have Hfn := hide (fun (r : Rl) (hr : r ∈ k.1) => (show r.2.length ≤ 40 ∧ okS r.2 = true from ⟨(hfine.2 r hr).1, hset0 r hr⟩))
  have Hat := hide (fun (j i : Nat) (r : Rl) (q : Nd) (cc : List Tm) (h : k.1[j]? = some r) (hi : r.2[i]? = some q) (hc : neededC X nm r.1 q.1 = some cc) => rels_at h hi hc)
  have Htk := hide (fun (j : Nat) (r : Rl) (h : k.1[j]? = some r) => rels_take X nm k.1 h)
  have HB := hide (fun (wx : World) (hx : Below we.heap.size we wx) => (show wx.cell? ⟨Bm, 0, none⟩ = some (.string nm) ∧ wx.cell? ⟨Bm, 1, none⟩ = some (.slice A n c) from ⟨(bm.below hx bm.lt).cell 0, (bm.below hx bm.lt).cell 1⟩))
  have HR := hide (fun (wx : World) (hx : Below we.heap.size we wx) => unrelF_any nm k.1 A n c wx (hr.on hx) hn hver)
  unfold Term.MakesT at HR
  have HM0 := hide (fun (wx : World) (Aq : Option Addr) (cq : Nat) (hq : TmR wx wx.heap.size Aq 1 [⟨nm, notS (versS k.1), false⟩]) => makeR_any [⟨nm, notS (versS k.1), false⟩] Aq 1 cq wx hq.in_ (fine_one1 hok0 (by show (notS (versS k.1)).length ≤ 100; omega)) (fun t ht => by rw [List.mem_singleton.1 ht]; exact hok0))
  unfold MakesR at HM0
  rw [hC0] at HM0
  have HS0 := hide (fun (wx : World) => stepF_any 2 nm 0 ByteArray.empty wx (by omega) (by simp))
  have HL : Hid (∀ i f, (relsP X nm k.1)[i]? = some f → (allP X nm)[1 + i]? = some f ∧ 1 + i < (allP X nm).length) := hide (fun i f h => by
    have e : (allP X nm)[1 + i]? = some f := by rw [hall, Nat.add_comm, List.getElem?_cons_succ]; exact h
    exact ⟨e, (List.getElem?_eq_some_iff.1 e).1⟩)
  have HL0 : Hid ((allP X nm)[0]? = some (C0, releasedStep nm) ∧ 0 < (allP X nm).length) := hide (by rw [hall]; exact ⟨rfl, by simp⟩)
  have HE : Hid ((allP X nm).length = 1 + (relsP X nm (k.1.take n)).length) := hide (by rw [hall, List.length_cons, ← hrl, List.take_of_length_le (Nat.le_refl _), Nat.add_comm])
  obtain ⟨q1, q2⟩ := HB.out _ hbW
  generalize notS (versS k.1) = U0 at *
  clear hr hJ hY hX hk hok0 hl31 hk30 hfine hC0 hall hver hset0 bm h0 hW
  refine callsIn_of_wp Tryz.func56 rfl trivial ?_ rfl
  simp only [Tryz.ntmps56, List.size_toArray, List.length_cons, List.length_nil, Nat.reduceAdd, Nat.reduceSub, Array.replicate_succ, Array.replicate_zero, List.push_toArray, List.append_toArray, List.nil_append, List.cons_append]
  gi_wp2_with (first
    | (refine ⟨trivial, fun _ => by omega, ?_⟩
       gi_at_call 41
       refine (callsIn_wide.2 (HR.out _ hbW)).mono ?_
       rintro e w2 ⟨A2, n2, c2, rfl, hN2, hb2⟩
       have hR2 := one_tmR w2 nm A2 n2 c2 false (InS.of_new hN2) _ rfl
       have hb3 := hb2.alloc hb2.size (.cells #[.string nm, .slice A2 n2 c2, .bool false] 63))
    | (refine ⟨trivial, fun _ => by omega, ?_⟩
       gi_at_call 39
       refine (callsIn_wide.2 (HM0.out _ _ _ hR2)).mono ?_
       rintro e w4 ⟨A4, n4, c4, rfl, h4, hb4x⟩
       have hb4 := hb3.trans (hb4x.mono hb3.size)
       obtain ⟨q3, q4⟩ := HB.out _ (hbW.trans (hb4.mono hbW.size)))
    | (refine ⟨trivial, fun _ => by omega, ?_⟩
       gi_at_call 50
       refine (callsIn_wide.2 (HS0.out _)).mono ?_
       rintro e w6 ⟨rfl, hb6x⟩
       have hb6 := hb4.trans (hb6x.mono hb4.size)
       have h6 := TmR.on h4 hb6x
       obtain ⟨fn, tmps, assign, body, hy, hR⟩ := HYs.out 0 #[.slice A4 n4 c4, .agg #[.int .i64 2, .string nm, .int .i64 0, .string ByteArray.empty, .int .i64 0, .int .i64 0]] w6 (HJ.out 0 _ _ hJ0 hb6) ⟨A4, n4, c4, C0, releasedStep nm, rfl, HL0.out.1, h6⟩ HL0.out.2))
  refine ⟨fun _ => by omega, hR.mono ?_⟩
  rintro e W7 ⟨rfl, hJ7, hk7⟩
  have hb7 : Below we.heap.size we W7 := (hbW.trans (hb6.mono hbW.size)).trans hk7.1
  obtain ⟨q5, q6⟩ := HB.out _ hb7
  clear hy hR hk7 q1 q2 q3 q4 hJ0 hb6 hb4 hb3 hb2 hR2 h4 h6 HS0 HM0 HR hbW HL0
  gi_wp2
  clear q5 q6
  gi_loopw [31] (fun p wr => ∃ (j : Nat), p = .int .i64 (j : Int) ∧ j ≤ n ∧ J (1 + (relsP X nm (k.1.take j)).length) wr ∧ Below we.heap.size we wr) (fun p _ => n - (RowKit.intOf p).toNat)
  case atStart => exact ⟨0, rfl, Nat.zero_le _, hJ7, hb7⟩
  case round =>
    obtain ⟨j, rfl, hj, hJr, hbr⟩ := hrel
    clear hJ7 hb7
    by_cases hlt : j < n
    · obtain ⟨ad, r, Ar, nr, cr, rfl, hbl, hxr, hsr, p1, p2⟩ := HP.out wr hbr j hlt
      have hrm := List.mem_of_getElem? hxr
      obtain ⟨hr40, hrok⟩ := Hfn.out r hrm
      have hTk := hide (Htk.out j r hxr)
      have Hat2 := hide (fun (i : Nat) (q : Nd) (cc : List Tm) (hi : r.2[i]? = some q) (hc : neededC X nm r.1 q.1 = some cc) => Hat.out j i r q cc hxr hi hc)
      have Hne2 := hide (fun (q : Nd) (hq : q ∈ r.2) => Hne.out r hrm q hq)
      have Hnt := hide (fun (i : Nat) (q : Nd) (h : r.2[i]? = some q) => needed_take X nm r.1 r.2 h)
      have hbs := hbr.size
      have hnr : r.2.length = nr := hsr.len
      have Hnr := hide hnr
      have hnr40 : nr ≤ 40 := by omega
      obtain ⟨v, rn⟩ := r
      simp only [] at p1 p2 hsr Hat2 Hne2 Hnt hTk Hnr
      obtain ⟨V0, hV0⟩ : ∃ V0, V0 = wr := ⟨_, rfl⟩
      have dr := Blk.new wr 116 #[.int .i64 v, .slice Ar nr cr]
      have hbA : Below wr.heap.size wr (wr.alloc (.cells #[.int .i64 v, .slice Ar nr cr] 116)) := alloc_b _
      have k0 := dr.cell 0
      have k1 := dr.cell 1
      have HPn := hide (fun (wx : World) (hx : Below we.heap.size wr wx) (i : Nat) (hi : i < nr) => NdIn.at_ (NdIn.below hsr hx) hi)
      have hJA := HJ.out _ _ _ hJr hbA
      have hbVA := hbr.trans (hbA.mono hbs)
      have hwA : Below we.heap.size wr (wr.alloc (.cells #[.int .i64 v, .slice Ar nr cr] 116)) := hbA.mono hbs
      clear hxr hrm hrok hr40 hsr hnr Htk Hat Hne Hfn HP
      obtain ⟨gr, hgr⟩ : ∃ gr, gr = wr.heap.size := ⟨_, rfl⟩
      gi_wp2
      rw [← hgr] at dr k0 k1 ⊢
      have hgrs : we.heap.size ≤ gr := by omega
      generalize wr.alloc (.cells #[.int .i64 v, .slice Ar nr cr] 116) = VA at *
      clear hgr p1 p2 k0 k1 hbA
      subst hV0
      gi_loopw [38] (fun p wz => ∃ (i : Nat), p = .int .i64 (i : Int) ∧ i ≤ nr ∧ J (1 + ((relsP X nm (k.1.take j)).length + (neededP X nm v (rn.take i)).length)) wz ∧ Below we.heap.size we wz ∧ Below we.heap.size V0 wz ∧ Blk wz gr 116 #[.int .i64 v, .slice Ar nr cr]) (fun p _ => nr - (RowKit.intOf p).toNat)
      case atStart => exact ⟨0, rfl, Nat.zero_le _, hJA, hbVA, hwA, dr⟩
      case round =>
        obtain ⟨i, rfl, hi, hJz, hbz, hVz, dz⟩ := hrel
        clear hJA hbVA hwA dr
        by_cases hli : i < nr
        · obtain ⟨ad2, q, A2, n2, c2, rfl, hbl2, hxq, hsq, p1, p2⟩ := HPn.out wr hVz i hli
          have hqm := List.mem_of_getElem? hxq
          obtain ⟨hC1, hv, ho1, ho2, hl7, hset⟩ := Hne2.out q hqm
          have hAt := hide (fun cc h => Hat2.out i q cc hxq h)
          have hT := hide (Hnt.out i q hxq)
          obtain ⟨x, s⟩ := q
          simp only [] at p1 p2 hC1 ho2 hl7 hset hAt hT hsq hv ho1
          have hx9 : x.size ≤ 1000000000 := by
            have := Label.fit_small (unmetT x s).name (okT_fit ho2)
            have e : (unmetT x s).name = x := rfl
            rw [e] at this
            omega
          have hbzs := hbz.size
          obtain ⟨gn, hgn⟩ : ∃ gn, gn = wr.heap.size := ⟨_, rfl⟩
          obtain ⟨Wn, hWn⟩ : ∃ Wn, Wn = wr.alloc (.cells #[.string x, .slice A2 n2 c2] 50) := ⟨_, rfl⟩
          have hbn : Below wr.heap.size wr Wn := by rw [hWn]; exact alloc_b _
          have dn : Blk Wn gn 50 #[.string x, .slice A2 n2 c2] := by rw [hWn, hgn]; exact Blk.new _ _ _
          have dzn : Blk Wn gr 116 #[.int .i64 v, .slice (some ad2) nr cr] := dz.below hbn dz.lt
          have hbWn : Below we.heap.size we Wn := hbz.trans (hbn.mono hbzs)
          have hVn : Below we.heap.size V0 Wn := hVz.trans (hbn.mono hbzs)
          have hJn := HJ.out _ _ _ hJz hbn
          have hsn : SpOn Wn A2 n2 s := SpIn.more (SpIn.below hsq (hbn.mono hbzs)) hbWn.size
          have HX := hide (fun (wx : World) (hb : Below Wn.heap.size Wn wx) => (show wx.cell? ⟨Bm, 0, none⟩ = some (.string nm) ∧ wx.cell? ⟨gr, 0, none⟩ = some (.int .i64 v) ∧ wx.cell? ⟨gn, 0, none⟩ = some (.string x) ∧ wx.cell? ⟨gn, 1, none⟩ = some (.slice A2 n2 c2) from
            ⟨(HB.out wx (hbWn.trans (hb.mono hbWn.size))).1, (dzn.below hb dzn.lt).cell 0, (dn.below hb dn.lt).cell 0, (dn.below hb dn.lt).cell 1⟩))
          have HO := hide (fun (wx : World) => chosenF_any nm v wx (by omega) (by omega))
          rw [at_one hv.1 hv.2] at HO
          unfold Term.MakesT at HO
          have HU := hide (fun (wx : World) (h : SpOn wx A2 n2 s) => unmetF_any x s A2 n2 c2 wx h hx9 hset)
          unfold Term.MakesT at HU
          have HM := hide (fun (wx : World) (Aq : Option Addr) (cq : Nat) (hq : TmR wx wx.heap.size Aq 2 [⟨nm, atS v, false⟩, unmetT x s]) => makeR_any [⟨nm, atS v, false⟩, unmetT x s] Aq 2 cq wx hq.in_ (fine_two ho1 ho2 (by show 1 ≤ 10; omega) (by omega)) (fun t ht => by
            rcases List.mem_cons.1 ht with rfl | ht
            · exact ho1
            · rw [List.mem_singleton.1 ht]; exact ho2))
          unfold MakesR at HM
          rw [← hC1] at HM
          have HS := hide (fun (wx : World) => stepF_any 3 nm v x wx (by omega) hx9)
          generalize unmetT x s = U at *
          generalize atS v = Z at *
          clear hqm hC1 ho1 ho2 hl7 hxq hsq hv hset
          have kd0 := Below.refl Wn.heap.size Wn
          have kdW : Below Wn.heap.size Wn Wn.drew := kd0.drew
          have hWns := hbWn.size
          cases hc : neededC X nm v x with
          | none =>
            rw [hc] at HM hT
            have HT : Hid ((neededP X nm v (rn.take (i + 1))).length = (neededP X nm v (rn.take i)).length) := hide (by rw [hT.out]; simp)
            clear hT hAt HS hc
            gi_wp2
            rw [← hgn, ← hWn]
            clear hgn hWn p1 p2 hbn dz hJz hbz hVz hbzs
            refine wpIn_wide.2 ?_
            go_region_held3 (fun w' => w'.cell? ⟨Bm, 0, none⟩ = some (.string nm) ∧ w'.cell? ⟨gr, 0, none⟩ = some (.int .i64 v) ∧ w'.cell? ⟨gn, 0, none⟩ = some (.string x) ∧ w'.cell? ⟨gn, 1, none⟩ = some (.slice A2 n2 c2)) (first | exact HX.out _ hk8 | exact HX.out _ hk7a | exact HX.out _ hk7 | exact HX.out _ hk6 | exact HX.out _ kdW | exact HX.out _ kd0 | go_keep)
              (first
                | (go_at_call 57
                   refine (HO.out _).mono ?_
                   rintro e w6 ⟨A6, n6, c6, rfl, hN6, hb6⟩
                   have hk6 : Below Wn.heap.size Wn w6 := kdW.trans hb6
                   have h26 := hsn.on hk6)
                | (go_at_call 40
                   refine (HU.out _ h26).mono ?_
                   rintro e w7 ⟨A7, n7, c7, rfl, hN7, hb7⟩
                   have hk7 : Below Wn.heap.size Wn w7 := hk6.trans (hb7.mono hk6.size)
                   have hk7a := hk7.alloc hk7.size (.cells #[.string nm, .slice A6 n6 c6, .bool false, .string U.name, .slice A7 n7 c7, .bool U.none] 63)
                   have hR7 := two_tmR w7 nm A6 n6 c6 false U.name A7 n7 c7 U.none ((InS.of_new hN6).below hb7) (InS.of_new hN7) _ rfl)
                | (go_at_call 39
                   refine (HM.out _ _ _ hR7).mono ?_
                   rintro e w8 ⟨A8, n8, c8, rfl, h8, hb8⟩
                   have hk8 : Below Wn.heap.size Wn w8 := hk7a.trans (hb8.mono hk7a.size)))
            all_goals
              gi_wp2
              refine ⟨trivial, ?_⟩
              gi_wp2
              refine ⟨fun f h => (by cases h), ?_⟩
              gi_wp2
              go_roundw
              case rel => exact ⟨i + 1, by go_num, by omega, by rw [HT.out]; exact HJ.out _ _ _ hJn hk8, hbWn.trans (hk8.mono hWns), hVn.trans (hk8.mono hWns), dzn.below hk8 dzn.lt⟩
              case measure => simp [RowKit.intOf]; omega
          | some cc =>
            rw [hc] at HM hT
            have HT : Hid (1 + ((relsP X nm (k.1.take j)).length + (neededP X nm v (rn.take (i + 1))).length) = 1 + ((relsP X nm (k.1.take j)).length + (neededP X nm v (rn.take i)).length) + 1) := hide (by rw [hT.out, List.length_append]; simp; omega)
            have HF := hide (HL.out _ _ (hAt.out cc hc))
            clear hT hAt hc
            gi_wp2
            rw [← hgn, ← hWn]
            clear hgn hWn p1 p2 hbn dz hJz hbz hVz hbzs
            refine wpIn_wide.2 ?_
            go_region_held3 (fun w' => w'.cell? ⟨Bm, 0, none⟩ = some (.string nm) ∧ w'.cell? ⟨gr, 0, none⟩ = some (.int .i64 v) ∧ w'.cell? ⟨gn, 0, none⟩ = some (.string x) ∧ w'.cell? ⟨gn, 1, none⟩ = some (.slice A2 n2 c2)) (first | exact HX.out _ hk8 | exact HX.out _ hk7a | exact HX.out _ hk7 | exact HX.out _ hk6 | exact HX.out _ kdW | exact HX.out _ kd0 | go_keep)
              (first
                | (go_at_call 57
                   refine (HO.out _).mono ?_
                   rintro e w6 ⟨A6, n6, c6, rfl, hN6, hb6⟩
                   have hk6 : Below Wn.heap.size Wn w6 := kdW.trans hb6
                   have h26 := hsn.on hk6)
                | (go_at_call 40
                   refine (HU.out _ h26).mono ?_
                   rintro e w7 ⟨A7, n7, c7, rfl, hN7, hb7⟩
                   have hk7 : Below Wn.heap.size Wn w7 := hk6.trans (hb7.mono hk6.size)
                   have hk7a := hk7.alloc hk7.size (.cells #[.string nm, .slice A6 n6 c6, .bool false, .string U.name, .slice A7 n7 c7, .bool U.none] 63)
                   have hR7 := two_tmR w7 nm A6 n6 c6 false U.name A7 n7 c7 U.none ((InS.of_new hN6).below hb7) (InS.of_new hN7) _ rfl)
                | (go_at_call 39
                   refine (HM.out _ _ _ hR7).mono ?_
                   rintro e w8 ⟨A8, n8, c8, rfl, h8, hb8⟩
                   have hk8 : Below Wn.heap.size Wn w8 := hk7a.trans (hb8.mono hk7a.size)))
            all_goals
              obtain ⟨z1, z2, z3, z4⟩ := HX.out _ hk8
              gi_wp2_with (first
                | (refine ⟨trivial, fun _ => by omega, ?_⟩
                   gi_at_call 50
                   refine (callsIn_wide.2 (HS.out _)).mono ?_
                   rintro e w9 ⟨rfl, hb9⟩
                   have hk9 := hk8.trans (hb9.mono hk8.size)
                   have h9 := TmR.on h8 hb9
                   obtain ⟨fn, tmps, assign, body, hy, hR⟩ := HYs.out _ #[.slice A8 n8 c8, .agg #[.int .i64 3, .string nm, .int .i64 v, .string x, .int .i64 0, .int .i64 0]] w9 (HJ.out _ _ _ hJn hk9) ⟨A8, n8, c8, cc, neededStep nm v x, rfl, HF.out.1, h9⟩ HF.out.2))
              refine ⟨fun _ => by omega, hR.mono ?_⟩
              rintro e W10 ⟨rfl, hJ10, hk10⟩
              have d10 := hk10.2 _ _ (dzn.below hk9 dzn.lt)
              have hb10 := (hbWn.trans (hk9.mono hWns)).trans hk10.1
              have hV10 := (hVn.trans (hk9.mono hWns)).trans hk10.1
              clear hy hR hk10 z1 z2 z3 z4
              gi_wp2
              go_roundw
              case rel => exact ⟨i + 1, by go_num, by omega, by rw [HT.out]; exact hJ10, hb10, hV10, d10⟩
              case measure => simp [RowKit.intOf]; omega
        · have hi2 : i = nr := by omega
          have HT2 : Hid ((relsP X nm (k.1.take (j + 1))).length = (relsP X nm (k.1.take j)).length + (neededP X nm v (rn.take i)).length) := hide (by
            have e : rn.take nr = rn := List.take_of_length_le (by have := Hnr.out; omega)
            rw [hTk.out, List.length_append, hi2, e])
          clear hi2
          gi_wp2
          go_roundw
          case rel => exact ⟨j + 1, by go_num, by omega, by rw [HT2.out]; exact hJz, hbz⟩
          case measure => simp [RowKit.intOf]; omega
    · have hj2 : j = n := by omega
      subst hj2
      rw [← HE.out] at hJr
      gi_wp2
      go_end0
      exact ⟨⟨_, rfl⟩, hJr⟩
end Go.Proofs.YtpicnbidbddggaaGreatDoor.Fact
