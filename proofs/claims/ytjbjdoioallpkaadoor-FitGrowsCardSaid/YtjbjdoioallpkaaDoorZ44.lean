/-
  Some texts of this claim, one behind the other: ReachNames, FitSpec, ReachGrowsM. What each proves, and its condition, stands at its head.
-/
import Derived.Test.YtjbjdoioallpkaaDoorZ43
import Derived.Test.YtjbjdoioallpkaaDoorZ42
import Derived.Test.YtjbjdoioallpkaaDoorZ30
import Derived.Test.YtjbjdoioallpkaaDoorZ39
import Derived.Test.YtjbjdoioallpkaaDoorZ13
import Derived.Test.YtjbjdoioallpkaaDoorZ41
/-
  The contract of the program's Names, over whatever tells what is known (an index, or nil): what may be needed. Condition: as many names as may be walked.
-/
namespace Go.Proofs.YtjbjdoioallpkaaDoor.Reach
open Go Go.RowKit Go.Lib Go.Sort Go.Proofs.YtjbjdoioallpkaaDoor.Span Go.Proofs.YtjbjdoioallpkaaDoor.Need Go.Proofs.YtjbjdoioallpkaaDoor.Mani Go.Proofs.YtjbjdoioallpkaaDoor.Wire Go.Proofs.YtjbjdoioallpkaaDoor.Depot Go.Proofs.YtjbjdoioallpkaaDoor.Index
set_option linter.unusedVariables false
theorem slice3 (A : Option Addr) (n c k N : Nat) (w : World) (h1 : k ≤ N) (h2 : N ≤ c) (i : TypeInfo) (hi : Tryd.prog.info? 9 = some i) (hz : i.size = 1) :
    (Instr.slice 34 (.slice A n c) (some (.int .i64 (k : Int))) (some (.int .i64 (N : Int))) (some (.int .i64 (N : Int)))).run Tryd.prog w = .ok (.slice (if N = k then A else A.map (·.add (k * 1))) (N - k) (N - k)) w := by
  have s0 : (0 : Int) ≤ (k : Int) := by omega
  have s1 : (k : Int) ≤ (N : Int) := by omega
  have s2 : (N : Int) ≤ (c : Int) := by omega
  have s3 : (0 : Int) ≤ (N : Int) := by omega
  simp [Instr.slice, run_underlying Tryd.underlying34, Instr.sliceBounds, run_sliceBound, sizeOf, typeInfo, hi, hz, s0, s1, s2, s3]
/-- What an index's Get and Has tell, in every world behind. -/
def TellsX (w : World) (pv : Value) (X : List Kn) : Prop := ∀ (nm : ByteArray) (wx : World), Below w.heap.size w wx → nm.size ≤ 1000000000 →
  Calls Tryd.prog 30 #[pv, .string nm] wx (Gots wx nm (getX X nm)) ∧
  Calls Tryd.prog 23 #[pv, .string nm] wx fun e w' => e = .returned (.bool (atX X nm).isSome) ∧ wx = w'
theorem TellsX.on {w w' : World} {pv : Value} {X : List Kn} (h : TellsX w pv X) (hb : Below w.heap.size w w') : TellsX w' pv X := fun nm wx hx hn => h nm wx (hb.trans (hx.mono hb.size)) hn
theorem tells_nil (w : World) : TellsX w (.pointer none) [] := fun nm wx _ hn => ⟨get_nil nm wx hn, has_nil nm wx⟩
theorem tells_idx {w : World} {B g : Nat} {X : List Kn} (h : IdxB w B g X) (hf : FineX X) : TellsX w (.pointer (some ⟨g, 0, none⟩)) X := fun nm wx hx hn => by
  obtain ⟨_, mo, h2, _⟩ := h
  exact ⟨get_any g mo X nm wx (h2.below hx) hf hn, has_any g mo X nm wx (h2.below hx) hn⟩
theorem tcs_drop (l : List ByteArray) (k : Nat) : (tcs l).drop k = tcs (l.drop k) := by simp [tcs]
end Go.Proofs.YtjbjdoioallpkaaDoor.Reach
/-
  What the program's Wrong, Solution and Needed have to tell, as premises of the laws' walks: each is a contract of the program's own code (a later text proves it). No condition.
-/
namespace Go.Proofs.YtjbjdoioallpkaaDoor.Fit
open Go Go.RowKit Go.Lib Go.Proofs.YtjbjdoioallpkaaDoor.Span Go.Proofs.YtjbjdoioallpkaaDoor.Need Go.Proofs.YtjbjdoioallpkaaDoor.Mani Go.Proofs.YtjbjdoioallpkaaDoor.Wire Go.Proofs.YtjbjdoioallpkaaDoor.Depot Go.Proofs.YtjbjdoioallpkaaDoor.Index Go.Proofs.YtjbjdoioallpkaaDoor.Reach Go.Proofs.YtjbjdoioallpkaaDoor.Pick
open Go.Proofs.YtjbjdoioallpkaaDoor.Ver (Units)
set_option linter.unusedVariables false
/-- A pointer. -/
abbrev IsP (pv : Value) : Prop := ∃ o : Option Addr, pv = .pointer o
/-- What stands when the program is asked. -/
def AskedF (X : List Kn) (root : List Nd) (l : List Pk) (pv : Value) (A : Option Addr) (n : Nat) (Al : Option Addr) (nl cl : Nat) (w : World) : Prop :=
  (IsP pv ∧ TellsX w pv X) ∧ FineX X ∧ SetX X ∧ X.length ≤ 100 ∧ NdOn w A n root ∧ n ≤ 40 ∧ okS root = true ∧ (∀ q ∈ root, q.1.size ≤ 100) ∧ PkOn w Al nl l ∧ nl ≤ cl ∧ nl ≤ 60 ∧ (∀ q ∈ l, q.1.size ≤ 200) ∧ Units w
theorem AskedF.on {X : List Kn} {root : List Nd} {l : List Pk} {pv : Value} {A : Option Addr} {n : Nat} {Al : Option Addr} {nl cl : Nat} {w w' : World} (h : AskedF X root l pv A n Al nl cl w) (hb : Below w.heap.size w w') : AskedF X root l pv A n Al nl cl w' := by
  obtain ⟨h1, h2, h3, h4, h5, h6, h7, h8, h9, h10, h11, h12, h13⟩ := h
  exact ⟨⟨h1.1, h1.2.on hb⟩, h2, h3, h4, h5.on hb, h6, h7, h8, h9.on hb, h10, h11, h12, h13.below hb⟩
def SpecWrong : Prop := ∀ (X : List Kn) (root : List Nd) (l : List Pk) (pv : Value) (A : Option Addr) (n c : Nat) (Al : Option Addr) (nl cl : Nat) (w : World), AskedF X root l pv A n Al nl cl w →
  Calls Tryd.prog 17 #[pv, .slice A n c, .slice Al nl cl] w fun e w' => e = .returned (.tuple #[.int .i64 (wrongX X root l).1, .string (wrongX X root l).2]) ∧ Below w.heap.size w w'
def SpecSol : Prop := ∀ (X : List Kn) (root : List Nd) (l : List Pk) (pv : Value) (A : Option Addr) (n c : Nat) (Al : Option Addr) (nl cl : Nat) (w : World), AskedF X root l pv A n Al nl cl w →
  Calls Tryd.prog 10 #[pv, .slice A n c, .slice Al nl cl] w fun e w' => e = .returned (.bool (solX X root l)) ∧ Below w.heap.size w w'
def SpecNeeded : Prop := ∀ (X : List Kn) (root : List Nd) (l : List Pk) (pv : Value) (A : Option Addr) (n c : Nat) (Al : Option Addr) (nl cl : Nat) (w : World), AskedF X root l pv A n Al nl cl w → okP l = true →
  Calls Tryd.prog 11 #[pv, .slice A n c, .slice Al nl cl] w (MakesT w (neededX X root l))
end Go.Proofs.YtjbjdoioallpkaaDoor.Fit
/-
  What ReachGrows wants: entries that stand first; that a put leaves texts alone; what is told of what more is known.
-/
namespace Go.Proofs.YtjbjdoioallpkaaDoor.Reach
open Go Go.RowKit Go.Lib Go.Sort Go.Proofs.YtjbjdoioallpkaaDoor.Span Go.Proofs.YtjbjdoioallpkaaDoor.Need Go.Proofs.YtjbjdoioallpkaaDoor.Mani Go.Proofs.YtjbjdoioallpkaaDoor.Wire Go.Proofs.YtjbjdoioallpkaaDoor.Depot Go.Proofs.YtjbjdoioallpkaaDoor.Index
set_option linter.unusedVariables false
theorem rcs_take2 : ∀ (l : List Rw) (k : Nat), (rcs l).take (k * 2) = rcs (l.take k)
  | l, 0 => by simp [rcs]
  | [], k + 1 => by simp [rcs]
  | r :: t, k + 1 => by
    rw [show (k + 1) * 2 = k * 2 + 1 + 1 by omega]
    simp only [rcs, List.take_succ_cons, rcs_take2 t k]
theorem reads_take2 {w : World} {B n k : Nat} {A : Option Addr} {xs : List Value} (h : Reads w B 2 A n xs) (hk : k ≤ n) : Reads w B 2 A k (xs.take (k * 2)) := by
  refine ⟨by rw [List.length_take, h.1]; omega, fun hn => ?_⟩
  obtain ⟨ad, rfl, hb, hcell⟩ := h.2 (by omega)
  refine ⟨ad, rfl, hb, fun j u hu => hcell j u ?_⟩
  rw [List.getElem?_take] at hu
  split at hu
  · exact hu
  · cases hu
/-- The first of some entries. -/
theorem en_take {w : World} {n k : Nat} {A : Option Addr} {l : List En} (h : EnOn w A n l) (hk : k ≤ n) : EnOn w A k (l.take k) := by
  obtain ⟨rs, h1, h2, h3⟩ := h
  refine ⟨rs.take k, ?_, by rw [List.length_take, List.length_take, h2], fun i r q hr hq => h3 i r q ?_ ?_⟩
  · rw [← rcs_take2]; exact reads_take2 h1 hk
  · rw [List.getElem?_take] at hr
    split at hr
    · exact hr
    · cases hr
  · rw [List.getElem?_take] at hq
    split at hq
    · exact hq
    · cases hq
/-- A text's cell is in no block that a put writes. -/
theorem text_far {w : World} {g : Nat} {mo : Option Nat} {X : List Kn} {p : Addr} {z : ByteArray} (h : Idx w g mo X) (hc : w.cell? p = some (.string z)) : p.block ≠ rowX g mo := by
  obtain ⟨hb, hm⟩ := h
  rcases hm with ⟨rfl, _⟩ | ⟨b, rfl, val, ⟨D, ho, _⟩, _⟩
  · intro e
    obtain ⟨pb, po, pf⟩ := p
    have e' : pb = g := e
    subst e'
    unfold Blk at hb
    cases pf with
    | none =>
      simp only [World.cell?, hb] at hc
      cases po with
      | zero => simp at hc
      | succ k => simp at hc
    | some q => simp [World.cell?, hb] at hc
  · obtain ⟨es, clock, hb2, _⟩ := ho
    intro e
    have e' : p.block = b := e
    rw [← e'] at hb2
    simp [World.cell?, hb2] at hc
theorem texts_put {w w' : World} {g n : Nat} {mo : Option Nat} {X : List Kn} {A : Option Addr} {L : List ByteArray} (h : Idx w g mo X) (hT : TxOn w A n L) (hg : w.grownBy w' (some (rowX g mo))) : TxOn w' A n L := by
  refine ⟨hT.1, fun hn => ?_⟩
  obtain ⟨ad, hA, hlt, hc⟩ := hT.2 hn
  refine ⟨ad, hA, Nat.lt_of_lt_of_le hlt hg.size, fun j u hu => ?_⟩
  have h1 := hc j u hu
  have h2 : ∃ z, u = .string z := by
    simp only [tcs, List.getElem?_map, Option.map_eq_some_iff] at hu
    obtain ⟨z, _, rfl⟩ := hu
    exact ⟨z, rfl⟩
  obtain ⟨z, rfl⟩ := h2
  have hne := text_far h h1
  exact (World.cell?_of_block (hg.block _ (by rw [block_of_add]; exact hlt) (fun e => hne (by injection e)))).trans h1
/-- A put: texts beside the index stay. -/
theorem putX_any {w : World} {B g : Nat} {l : List Kn} (nm : ByteArray) (bd : List UInt8) (A : Option Addr) (n c : Nat) (h : IdxB w B g l) (hl : RisesK l) (hlen : l.length ≤ 100000) (hr : Reads w B 1 A n (bcs bd)) (hnm : nm.size ≤ 1000000000) :
    Calls Tryd.prog 12 #[.pointer (some ⟨g, 0, none⟩), .string nm, .slice A n c] w fun e w' =>
      e = .returned (.int .i64 (errX l nm bd)) ∧ IdxB w' B g (putX l nm bd) ∧ Below B w w' ∧ ∀ (Ax : Option Addr) (nx : Nat) (L : List ByteArray), TxOn w Ax nx L → TxOn w' Ax nx L := by
  have hle := h.le
  obtain ⟨h1, mo, h2, h3⟩ := h
  refine (put_any g mo l nm bd A n c B w h2 hl hlen hr (IdxB.row h1 h3) hnm).mono ?_
  rintro e w' ⟨he, ⟨mo', h4, h5⟩, hg⟩
  refine ⟨he, ⟨h1, mo', h4, fun b hb => ?_⟩, (Below.refl _ _).grown hg hle (fun k hk => by injection hk with hk; rw [← hk]; exact IdxB.row h1 h3), fun Ax nx L hT => texts_put h2 hT hg⟩
  rcases h5 with rfl | ⟨_, b', e2, h6⟩
  · exact h3 b hb
  · rw [hb] at e2
    injection e2 with e2
    rw [e2]; exact Nat.le_trans hle h6
/-! What is told of what more is known. -/
theorem known_stays (l : List En) (k : Nat) : ∀ a v, atX (putsX [] (l.take k)) a = some v → atX (putsX [] l) a = some v := by
  intro a v h
  have e : putsX [] l = putsX (putsX [] (l.take k)) (l.drop k) := by rw [← putsX_append, List.take_append_drop]
  rw [e]
  exact puts_stay (putsX_rises List.Pairwise.nil _) h _
theorem reach_sub {X Y : List Kn} {root : List Nd} (hk : ∀ a v, atX X a = some v → atX Y a = some v) {a : ByteArray} (h : a ∈ reachX X root) : a ∈ reachX Y root := reachX_mem.2 (may_grows hk (reachX_mem.1 h))
theorem reach_same {X Y : List Kn} {root : List Nd} (hk : ∀ a v, atX X a = some v → atX Y a = some v) (hw : missX X root = []) : reachX X root = reachX Y root := by
  refine rises_unique (reachX_rises X root) (reachX_rises Y root) fun z => ⟨reach_sub hk, fun h => reachX_mem.2 (may_whole hk (fun a ha => ?_) (reachX_mem.1 h))⟩
  cases e : atX X a with
  | some v => rfl
  | none =>
    have : a ∈ missX X root := List.mem_filter.2 ⟨reachX_mem.2 ha, by rw [e]; rfl⟩
    rw [hw] at this
    cases this
/-- Is a name one of root's, or asked for by one of these? -/
def askedX (X : List Kn) (root : List Nd) (L : List ByteArray) (z : ByteArray) : Prop := z ∈ namesS root ∨ ∃ a ∈ L, z ∈ asksX X a
theorem reach_asked {X : List Kn} {root : List Nd} {z : ByteArray} (h : z ∈ reachX X root) : askedX X root (reachX X root) z := by
  rcases may_from (reachX_mem.1 h) with h | ⟨a, ha, hz⟩
  · exact .inl h
  · exact .inr ⟨a, reachX_mem.2 ha, hz⟩
theorem add_len {X : List Kn} {a z : ByteArray} : ((addF z false (asksF X a)).length = (asksF X a).length ↔ z ∈ asksX X a) := by
  unfold asksF
  rw [addF_there (foldN_rises _)]
  constructor
  · intro h
    split at h
    · rename_i h1; exact (foldN_mem _).1 h1
    · omega
  · intro h
    rw [if_pos ((foldN_mem _).2 h)]
theorem add_same {L : List ByteArray} (hl : RisesN L) {z : ByteArray} (h : z ∈ L) : (addF z false L).length = L.length := by rw [addF_there hl, if_pos h]
/-- Two names that stand one behind the other. -/
theorem next_less {L : List ByteArray} (hl : RisesN L) {i : Nat} {x y : ByteArray} (hx : L[i]? = some x) (hy : L[i + 1]? = some y) : nlt x y = true := by
  obtain ⟨h1, e1⟩ := List.getElem?_eq_some_iff.1 hx
  obtain ⟨h2, e2⟩ := List.getElem?_eq_some_iff.1 hy
  rw [← e1, ← e2]
  exact List.pairwise_iff_getElem.1 hl i (i + 1) h1 h2 (by omega)
end Go.Proofs.YtjbjdoioallpkaaDoor.Reach
