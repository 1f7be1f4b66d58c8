/-
  Some texts of this claim, one behind the other: ReachNames, FitSpec, ReachGrowsM. What each proves, and its condition, stands at its head.
-/
import Derived.Test.YtpicnbidbddggaaGreatDoorX40
import Derived.Test.YtpicnbidbddggaaGreatDoorX33
import Derived.Test.YtpicnbidbddggaaGreatDoorX34
import Derived.Test.YtpicnbidbddggaaGreatDoorX21
import Derived.Test.YtpicnbidbddggaaGreatDoorX17
import Derived.Test.YtpicnbidbddggaaGreatDoorX32
/-
  The contract of the program's Names, over whatever tells what is known (an index, or nil): what may be needed. Condition: as many names as may be walked.
-/
namespace Go.Proofs.YtpicnbidbddggaaGreatDoor.Reach
open Go Go.RowKit Go.Lib Go.Sort Go.Proofs.YtpicnbidbddggaaGreatDoor.Span Go.Proofs.YtpicnbidbddggaaGreatDoor.Need Go.Proofs.YtpicnbidbddggaaGreatDoor.Mani Go.Proofs.YtpicnbidbddggaaGreatDoor.Wire Go.Proofs.YtpicnbidbddggaaGreatDoor.Depot Go.Proofs.YtpicnbidbddggaaGreatDoor.Index
set_option linter.unusedVariables false
def TellsX (w : World) (pv : Value) (X : List Kn) : Prop := ∀ (nm : ByteArray) (wx : World), Below w.heap.size w wx → nm.size ≤ 1000000000 →
  Calls Tryz.prog 31 #[pv, .string nm] wx (Gots wx nm (getX X nm)) ∧
  Calls Tryz.prog 16 #[pv, .string nm] wx fun e w' => e = .returned (.bool (atX X nm).isSome) ∧ wx = w'
theorem TellsX.on {w w' : World} {pv : Value} {X : List Kn} (h : TellsX w pv X) (hb : Below w.heap.size w w') : TellsX w' pv X := fun nm wx hx hn => h nm wx (hb.trans (hx.mono hb.size)) hn
theorem tells_idx {w : World} {B g : Nat} {X : List Kn} (h : IdxB w B g X) (hf : FineX X) : TellsX w (.pointer (some ⟨g, 0, none⟩)) X := fun nm wx hx hn => by
  obtain ⟨_, mo, h2, _⟩ := h
  exact ⟨get_any g mo X nm wx (h2.below hx) hf hn, has_any g mo X nm wx (h2.below hx) hn⟩
end Go.Proofs.YtpicnbidbddggaaGreatDoor.Reach
/-
  What the program's Wrong, Solution and Needed have to tell, as premises of the laws' walks: each is a contract of the program's own code (a later text proves it). No condition.
-/
namespace Go.Proofs.YtpicnbidbddggaaGreatDoor.Fit
open Go Go.RowKit Go.Lib Go.Proofs.YtpicnbidbddggaaGreatDoor.Span Go.Proofs.YtpicnbidbddggaaGreatDoor.Need Go.Proofs.YtpicnbidbddggaaGreatDoor.Mani Go.Proofs.YtpicnbidbddggaaGreatDoor.Wire Go.Proofs.YtpicnbidbddggaaGreatDoor.Depot Go.Proofs.YtpicnbidbddggaaGreatDoor.Index Go.Proofs.YtpicnbidbddggaaGreatDoor.Reach Go.Proofs.YtpicnbidbddggaaGreatDoor.Pick
open Go.Proofs.YtpicnbidbddggaaGreatDoor.Ver (Units)
set_option linter.unusedVariables false
abbrev IsP (pv : Value) : Prop := ∃ o : Option Addr, pv = .pointer o
def AskedF (X : List Kn) (root : List Nd) (l : List Pk) (pv : Value) (A : Option Addr) (n : Nat) (Al : Option Addr) (nl cl : Nat) (w : World) : Prop :=
  (IsP pv ∧ TellsX w pv X) ∧ FineX X ∧ SetX X ∧ X.length ≤ 100 ∧ NdOn w A n root ∧ n ≤ 40 ∧ okS root = true ∧ (∀ q ∈ root, q.1.size ≤ 100) ∧ PkOn w Al nl l ∧ nl ≤ cl ∧ nl ≤ 60 ∧ (∀ q ∈ l, q.1.size ≤ 200) ∧ Units w
theorem AskedF.on {X : List Kn} {root : List Nd} {l : List Pk} {pv : Value} {A : Option Addr} {n : Nat} {Al : Option Addr} {nl cl : Nat} {w w' : World} (h : AskedF X root l pv A n Al nl cl w) (hb : Below w.heap.size w w') : AskedF X root l pv A n Al nl cl w' := by
  obtain ⟨h1, h2, h3, h4, h5, h6, h7, h8, h9, h10, h11, h12, h13⟩ := h
  exact ⟨⟨h1.1, h1.2.on hb⟩, h2, h3, h4, h5.on hb, h6, h7, h8, h9.on hb, h10, h11, h12, h13.below hb⟩
def SpecWrong : Prop := ∀ (X : List Kn) (root : List Nd) (l : List Pk) (pv : Value) (A : Option Addr) (n c : Nat) (Al : Option Addr) (nl cl : Nat) (w : World), AskedF X root l pv A n Al nl cl w →
  Calls Tryz.prog 11 #[pv, .slice A n c, .slice Al nl cl] w fun e w' => e = .returned (.tuple #[.int .i64 (wrongX X root l).1, .string (wrongX X root l).2]) ∧ Below w.heap.size w w'
def SpecNeeded : Prop := ∀ (X : List Kn) (root : List Nd) (l : List Pk) (pv : Value) (A : Option Addr) (n c : Nat) (Al : Option Addr) (nl cl : Nat) (w : World), AskedF X root l pv A n Al nl cl w → okP l = true →
  Calls Tryz.prog 81 #[pv, .slice A n c, .slice Al nl cl] w (MakesT w (neededX X root l))
end Go.Proofs.YtpicnbidbddggaaGreatDoor.Fit
/-
  What ReachGrows wants: entries that stand first; that a put leaves texts alone; what is told of what more is known.
-/
namespace Go.Proofs.YtpicnbidbddggaaGreatDoor.Reach
open Go Go.RowKit Go.Lib Go.Sort Go.Proofs.YtpicnbidbddggaaGreatDoor.Span Go.Proofs.YtpicnbidbddggaaGreatDoor.Need Go.Proofs.YtpicnbidbddggaaGreatDoor.Mani Go.Proofs.YtpicnbidbddggaaGreatDoor.Wire Go.Proofs.YtpicnbidbddggaaGreatDoor.Depot Go.Proofs.YtpicnbidbddggaaGreatDoor.Index
set_option linter.unusedVariables false
/-! What is told of what more is known. -/
def askedX (X : List Kn) (root : List Nd) (L : List ByteArray) (z : ByteArray) : Prop := z ∈ namesS root ∨ ∃ a ∈ L, z ∈ asksX X a
end Go.Proofs.YtpicnbidbddggaaGreatDoor.Reach
