/- The order and the plan as the specification reckons them, as lists; layer 42 (sched). -/
import Derived.Test.YtjohdkcgodaeiaaP5
import Derived.Test.YtjohdkcgodaeiaaR4
namespace Go.Proofs.Ytjohdkcgodaeiaa
open Go.RowKit

/-- part x of R is better than part y, as the specification reckons. -/
def btR (rows : List Rw) (gone : List Int) (R A : List Nat) (x y : Nat) : Bool :=
  decide (alR rows R y gone < alR rows R x gone) || (alR rows R x gone == alR rows R y gone && decide (frR rows A x < frR rows A y))
/-- The best index among the first i + 1. -/
def bI (rows : List Rw) (gone : List Int) (R A : List Nat) : Nat → Nat
  | 0 => 0
  | i + 1 => if btR rows gone R A (R.getD (i + 1) 0) (R.getD (bI rows gone R A i) 0) then i + 1 else bI rows gone R A i
theorem bI_le (rows : List Rw) (gone : List Int) (R A : List Nat) : ∀ i, bI rows gone R A i ≤ i
  | 0 => Nat.le_refl _
  | i + 1 => by
    have := bI_le rows gone R A i
    rw [bI]; split <;> omega
def ordR (rows : List Rw) (gone : List Int) : Nat → List Nat → List Nat → List Nat
  | 0, _, A => A
  | n + 1, R, A => ordR rows gone n (R.eraseIdx (bI rows gone R A (R.length - 1))) (A ++ [R.getD (bI rows gone R A (R.length - 1)) 0])
/-- The last place among the first k whose part has v. -/
def lastK (rows : List Rw) (AH : List Nat) (v : Int) : Nat → Nat
  | 0 => 0
  | k + 1 => if mem (pr rows (AH.getD k 0)) v then k else lastK rows AH v k
def refStep (rows : List Rw) (gone : List Int) (AH : List Nat) (i : Nat) : Int × List Int := (((AH.getD i 0 : Nat) : Int), gone.filter fun v => lastK rows AH v AH.length == i)
def refPlan (rows : List Rw) (o : List Int) : List (Int × List Int) :=
  (List.range (ordR rows (setL o) rows.length (List.range rows.length) []).length).map (refStep rows (setL o) (ordR rows (setL o) rows.length (List.range rows.length) []))
end Go.Proofs.Ytjohdkcgodaeiaa
