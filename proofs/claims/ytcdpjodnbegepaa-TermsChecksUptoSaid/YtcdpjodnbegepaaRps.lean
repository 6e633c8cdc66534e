/- Trees in blocks of a kind; Clone of a row of expressions; layer 30 (terms). -/
import Derived.Test.YtcdpjodnbegepaaFn1
namespace Go.Proofs.Ytcdpjodnbegepaa
open Go.RowKit

/-- The Kids of the tree lie at A, and theirs where they say, all in blocks of P. -/
inductive RepS (P : Nat → Prop) (w : World) : Option Addr → Ex → Prop where
  | mk (A : Option Addr) (t : Ex) (ka : Nat → Option Addr) (kc : Nat → Nat)
      (hrow : 0 < t.ks.length → ∃ b f, A = some ⟨b, f, none⟩ ∧ P b ∧ ∀ i, i < t.ks.length → w.cell? ⟨b, f + i * 4, none⟩ = some (.int .i64 (kd t.ks i).op) ∧ w.cell? ⟨b, f + i * 4 + 1, none⟩ = some (.int .i64 (kd t.ks i).vr) ∧ w.cell? ⟨b, f + i * 4 + 2, none⟩ = some (.string (kd t.ks i).nm) ∧ w.cell? ⟨b, f + i * 4 + 3, none⟩ = some (.slice (ka i) (kd t.ks i).ks.length (kc i)))
      (hkid : ∀ i, i < t.ks.length → RepS P w (ka i) (kd t.ks i)) : RepS P w A t
theorem Rep.toS {B : Nat} {w : World} {A : Option Addr} {t : Ex} (h : Rep B w A t) : RepS (· < B) w A t := by
  induction h with
  | mk A t ka kc hrow hkid ih => exact .mk A t ka kc hrow ih
theorem RepS.toR {P : Nat → Prop} {B : Nat} {w : World} {A : Option Addr} {t : Ex} (h : RepS P w A t) (hP : ∀ b, P b → b < B) : Rep B w A t := by
  induction h with
  | mk A t ka kc hrow hkid ih =>
    refine .mk A t ka kc (fun hp => ?_) ih
    obtain ⟨b, f, e, hb, hc⟩ := hrow hp
    exact ⟨b, f, e, hP b hb, hc⟩
theorem RepS.mono {P P' : Nat → Prop} {w : World} {A : Option Addr} {t : Ex} (h : RepS P w A t) (hP : ∀ b, P b → P' b) : RepS P' w A t := by
  induction h with
  | mk A t ka kc hrow hkid ih =>
    refine .mk A t ka kc (fun hp => ?_) ih
    obtain ⟨b, f, e, hb, hc⟩ := hrow hp
    exact ⟨b, f, e, hP b hb, hc⟩
theorem RepS.kept {P : Nat → Prop} {w w' : World} {A : Option Addr} {t : Ex} (h : RepS P w A t) (hw : ∀ b, P b → w'.heap[b]? = w.heap[b]?) : RepS P w' A t := by
  induction h with
  | mk A t ka kc hrow hkid ih =>
    refine .mk A t ka kc (fun hp => ?_) ih
    obtain ⟨b, f, e, hb, hc⟩ := hrow hp
    have hh : ∀ o, w'.cell? ⟨b, o, none⟩ = w.cell? ⟨b, o, none⟩ := fun o => World.cell?_of_block (a := ⟨b, o, none⟩) (hw b hb)
    exact ⟨b, f, e, hb, fun i hi => ⟨(hh _).trans (hc i hi).1, (hh _).trans (hc i hi).2.1, (hh _).trans (hc i hi).2.2.1, (hh _).trans (hc i hi).2.2.2⟩⟩
/-- The cells of the expressions ks, their Kids at ka. -/
def csOf (ks : List Ex) (ka : Nat → Option Addr) (kc : Nat → Nat) : List Value := (List.range ks.length).flatMap fun i => [.int .i64 (kd ks i).op, .int .i64 (kd ks i).vr, .string (kd ks i).nm, .slice (ka i) (kd ks i).ks.length (kc i)]
theorem flat3_len {α : Type} (f g h k : Nat → α) : ∀ l : List Nat, (l.flatMap fun i => [f i, g i, h i, k i]).length = l.length * 4
  | [] => rfl
  | a :: r => by
    rw [List.flatMap_cons, List.length_append, flat3_len f g h k r]
    simp only [List.length_cons, List.length_nil]
    omega
theorem flat3_at {α : Type} (f g h k : Nat → α) : ∀ (l : List Nat) (i j : Nat) (a : Nat), l[i]? = some a → j < 4 → (l.flatMap fun i => [f i, g i, h i, k i])[i * 4 + j]? = [f a, g a, h a, k a][j]?
  | x :: r, 0, j, a, hi, hj => by
    obtain rfl : x = a := by simpa using hi
    rw [List.flatMap_cons, Nat.zero_mul, Nat.zero_add, List.getElem?_append_left (by simpa using hj)]
  | x :: r, i + 1, j, a, hi, hj => by
    have hl : [f x, g x, h x, k x].length = 4 := rfl
    rw [List.flatMap_cons, List.getElem?_append_right (by rw [hl]; omega), hl, show (i + 1) * 4 + j - 4 = i * 4 + j by omega]
    exact flat3_at f g h k r i j a (by simpa using hi) hj
theorem csOf_len (ks : List Ex) (ka : Nat → Option Addr) (kc : Nat → Nat) : (csOf ks ka kc).length = ks.length * 4 := by
  unfold csOf
  rw [flat3_len, List.length_range]
theorem csOf_at {ks : List Ex} {ka : Nat → Option Addr} {kc : Nat → Nat} {i j : Nat} (hi : i < ks.length) (hj : j < 4) : (csOf ks ka kc)[i * 4 + j]? = [Value.int .i64 (kd ks i).op, .int .i64 (kd ks i).vr, .string (kd ks i).nm, .slice (ka i) (kd ks i).ks.length (kc i)][j]? := by
  unfold csOf
  exact flat3_at _ _ _ _ _ i j i (by simp [hi]) hj
theorem csOf_one (ks : List Ex) (ka : Nat → Option Addr) (kc : Nat → Nat) : ∀ u ∈ csOf ks ka kc, u.oneCell' = true := by
  intro u hu
  unfold csOf at hu
  rw [List.mem_flatMap] at hu
  obtain ⟨i, _, hi⟩ := hu
  simp only [List.mem_cons, List.not_mem_nil, or_false] at hi
  rcases hi with rfl | rfl | rfl | rfl <;> rfl
theorem info24 : (Try.prog.info? 24).map (fun i => (i.zero, i.size, i.bytes)) = some (some (.agg #[.int .i64 0, .int .i64 0, .string ⟨#[]⟩, .slice none 0 0]), 4, 56) := by kernel_rfl
end Go.Proofs.Ytcdpjodnbegepaa
