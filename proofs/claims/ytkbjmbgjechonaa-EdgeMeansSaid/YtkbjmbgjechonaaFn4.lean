/- The contract of the specification's Ite, over the translation. -/
import Derived.Test.YtkbjmbgjechonaaFn3
namespace Go.Proofs.Ytkbjmbgjechonaa
open Go.RowKit

def iteK (f g h : Int) : Int × Int × Int × Bool × Int × Bool :=
  if (settledF f g h).2 = true then (0, 0, 0, false, (settledF f g h).1, true)
  else if negF f = true then turnedF (notF f) h g else turnedF f g h
theorem iteK_done {f g h v : Int} (e : settledF f g h = (v, true)) : iteK f g h = (0, 0, 0, false, v, true) := by unfold iteK; simp [e]
theorem iteK_neg {f g h : Int} (e : settledF f g h = (0, false)) (n : negF f = true) : iteK f g h = turnedF (notF f) h g := by unfold iteK; simp [e, n]
theorem iteK_pos {f g h : Int} (e : settledF f g h = (0, false)) (n : negF f = false) : iteK f g h = turnedF f g h := by unfold iteK; simp [e, n]
theorem notF_ne (f : Int) : ¬ notF f = f := by unfold notF; split <;> omega
theorem known_0 (f g : Int) : (g = f ∧ knownF f g 0 = 0) ∨ (¬ g = f ∧ g = notF f ∧ knownF f g 0 = 1) ∨ (¬ g = f ∧ ¬ g = notF f ∧ knownF f g 0 = g) := by
  unfold knownF
  by_cases a : g = f
  · exact .inl ⟨a, by simp [a]⟩
  · by_cases b : g = notF f
    · exact .inr (.inl ⟨a, b, by rw [if_neg a, if_pos b]; rfl⟩)
    · exact .inr (.inr ⟨a, b, by rw [if_neg a, if_neg b]⟩)
theorem known_1 (f g : Int) : (g = f ∧ knownF f g 1 = 1) ∨ (¬ g = f ∧ g = notF f ∧ knownF f g 1 = 0) ∨ (¬ g = f ∧ ¬ g = notF f ∧ knownF f g 1 = g) := by
  unfold knownF
  by_cases a : g = f
  · exact .inl ⟨a, by simp [a]⟩
  · by_cases b : g = notF f
    · exact .inr (.inl ⟨a, b, by rw [if_neg a, if_pos b]; rfl⟩)
    · exact .inr (.inr ⟨a, b, by rw [if_neg a, if_neg b]⟩)

end Go.Proofs.Ytkbjmbgjechonaa
