/-
  Some texts of this claim, one behind the other: FitSpec, PlainSpec. What each proves, and its condition, stands at its head.
-/
import Derived.Test.YtmoeilkaadnnoaaGreatY37
import Derived.Test.YtmoeilkaadnnoaaGreatY18
import Derived.Test.YtmoeilkaadnnoaaGreatY12
import Derived.Test.YtmoeilkaadnnoaaGreatY10
import Derived.Test.YtmoeilkaadnnoaaGreatY42
import Derived.Test.YtmoeilkaadnnoaaGreatY15
/-
  What the program's Wrong, Solution and Needed have to tell, as premises of the laws' walks: each is a contract of the program's own code (a later text proves it). No condition.
-/
namespace Go.Proofs.YtmoeilkaadnnoaaGreat.Fit
open Go Go.RowKit Go.Lib Go.Proofs.YtmoeilkaadnnoaaGreat.Span Go.Proofs.YtmoeilkaadnnoaaGreat.Need Go.Proofs.YtmoeilkaadnnoaaGreat.Mani Go.Proofs.YtmoeilkaadnnoaaGreat.Wire Go.Proofs.YtmoeilkaadnnoaaGreat.Depot Go.Proofs.YtmoeilkaadnnoaaGreat.Index Go.Proofs.YtmoeilkaadnnoaaGreat.Reach Go.Proofs.YtmoeilkaadnnoaaGreat.Pick
open Go.Proofs.YtmoeilkaadnnoaaGreat.Ver (Units)
set_option linter.unusedVariables false
abbrev IsP (pv : Value) : Prop := ∃ o : Option Addr, pv = .pointer o
def AskedF (X : List Kn) (root : List Nd) (l : List Pk) (pv : Value) (A : Option Addr) (n : Nat) (Al : Option Addr) (nl cl : Nat) (w : World) : Prop :=
  (IsP pv ∧ TellsX w pv X) ∧ FineX X ∧ SetX X ∧ X.length ≤ 100 ∧ NdOn w A n root ∧ n ≤ 40 ∧ okS root = true ∧ (∀ q ∈ root, q.1.size ≤ 100) ∧ PkOn w Al nl l ∧ nl ≤ cl ∧ nl ≤ 60 ∧ (∀ q ∈ l, q.1.size ≤ 200) ∧ Units w
theorem AskedF.on {X : List Kn} {root : List Nd} {l : List Pk} {pv : Value} {A : Option Addr} {n : Nat} {Al : Option Addr} {nl cl : Nat} {w w' : World} (h : AskedF X root l pv A n Al nl cl w) (hb : Below w.heap.size w w') : AskedF X root l pv A n Al nl cl w' := by
  obtain ⟨h1, h2, h3, h4, h5, h6, h7, h8, h9, h10, h11, h12, h13⟩ := h
  exact ⟨⟨h1.1, h1.2.on hb⟩, h2, h3, h4, h5.on hb, h6, h7, h8, h9.on hb, h10, h11, h12, h13.below hb⟩
end Go.Proofs.YtmoeilkaadnnoaaGreat.Fit
/-
  What the program's Solve, Asked and Next have to tell, as premises of the laws' walks: each is a contract of the program's own code (a later text proves it). No condition.
-/
namespace Go.Proofs.YtmoeilkaadnnoaaGreat.Plain
open Go Go.RowKit Go.Lib Go.Proofs.YtmoeilkaadnnoaaGreat.Span Go.Proofs.YtmoeilkaadnnoaaGreat.Need Go.Proofs.YtmoeilkaadnnoaaGreat.Mani Go.Proofs.YtmoeilkaadnnoaaGreat.Wire Go.Proofs.YtmoeilkaadnnoaaGreat.Depot Go.Proofs.YtmoeilkaadnnoaaGreat.Index Go.Proofs.YtmoeilkaadnnoaaGreat.Reach Go.Proofs.YtmoeilkaadnnoaaGreat.Pick Go.Proofs.YtmoeilkaadnnoaaGreat.Fit
set_option linter.unusedVariables false
def kindT : Plain.Told → Int
  | .found _ => 1
  | .nothing => 2
  | .lacks _ => 3
  | .broken _ => 4
  | .spent => 5
def nameT : Plain.Told → ByteArray
  | .lacks a => a
  | .broken a => a
  | _ => ByteArray.empty
def picksT : Plain.Told → List Pk
  | .found l => l
  | _ => []
def Solves (w : World) (t : Plain.Told) (e : Ending) (w' : World) : Prop := ∃ A n c, e = .returned (.tuple #[.slice A n c, .int .i64 (kindT t), .string (nameT t)]) ∧ NewP w' 0 A n c (picksT t) ∧ Below w.heap.size w w'
def AskedP (X : List Kn) (root : List Nd) (pv : Value) (A : Option Addr) (n : Nat) (w : World) : Prop :=
  (IsP pv ∧ TellsX w pv X) ∧ FineX X ∧ SetX X ∧ VerX X ∧ X.length ≤ 100 ∧ NdOn w A n root ∧ n ≤ 40 ∧ okS root = true ∧ ∀ q ∈ root, q.1.size ≤ 100
theorem AskedP.on {X : List Kn} {root : List Nd} {pv : Value} {A : Option Addr} {n : Nat} {w w' : World} (h : AskedP X root pv A n w) (hb : Below w.heap.size w w') : AskedP X root pv A n w' := by
  obtain ⟨h1, h2, h3, h4, h5, h6, h7, h8, h9⟩ := h
  exact ⟨⟨h1.1, h1.2.on hb⟩, h2, h3, h4, h5, h6.on hb, h7, h8, h9⟩
def AskedPk (X : List Kn) (root : List Nd) (l : List Pk) (pv : Value) (A : Option Addr) (n : Nat) (Al : Option Addr) (nl cl : Nat) (w : World) : Prop :=
  AskedP X root pv A n w ∧ PkOn w Al nl l ∧ nl ≤ cl ∧ nl ≤ 60 ∧ (∀ q ∈ l, q.1.size ≤ 200) ∧ okP l = true
theorem AskedPk.on {X : List Kn} {root : List Nd} {l : List Pk} {pv : Value} {A : Option Addr} {n : Nat} {Al : Option Addr} {nl cl : Nat} {w w' : World} (h : AskedPk X root l pv A n Al nl cl w) (hb : Below w.heap.size w w') : AskedPk X root l pv A n Al nl cl w' :=
  ⟨h.1.on hb, h.2.1.on hb, h.2.2⟩
def SpecSolve : Prop := ∀ (X : List Kn) (root : List Nd) (fuel : Int) (pv : Value) (A : Option Addr) (n c : Nat) (w : World), AskedP X root pv A n w → -9223372036854775808 ≤ fuel → fuel ≤ 2000 →
  Calls Tryz.prog 9 #[pv, .slice A n c, .int .i64 fuel] w (Solves w (solveX X root fuel.toNat))
def SpecAsked : Prop := ∀ (X : List Kn) (root : List Nd) (l : List Pk) (nm : ByteArray) (pv : Value) (A : Option Addr) (n c : Nat) (Al : Option Addr) (nl cl : Nat) (w : World), AskedPk X root l pv A n Al nl cl w → nm.size ≤ 200 →
  Calls Tryz.prog 19 #[pv, .slice A n c, .slice Al nl cl, .string nm] w (Makes w (askedX X root l nm))
def SpecNext : Prop := ∀ (X : List Kn) (root : List Nd) (l : List Pk) (pv : Value) (A : Option Addr) (n c : Nat) (Al : Option Addr) (nl cl : Nat) (w : World), AskedPk X root l pv A n Al nl cl w →
  Calls Tryz.prog 16 #[pv, .slice A n c, .slice Al nl cl] w (Tells w (.tuple #[.string ((nextX X root l).getD ByteArray.empty), .bool (nextX X root l).isSome]))
end Go.Proofs.YtmoeilkaadnnoaaGreat.Plain
