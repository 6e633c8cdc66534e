/- Rows of variables; contracts of the specification's truths and Index, of few, of layer 30 (terms). -/
import Derived.Test.YtcdpjodnbegepaaFnB
namespace Go.Proofs.Ytcdpjodnbegepaa
open Go.RowKit

theorem trC_all : ∀ {l : List Ty}, (∀ i, i < l.length → (ty l i).b = true) → trC l = l.length
  | [], _ => rfl
  | y :: r, h => by
    have h0 : y.b = true := h 0 (by simp)
    have h1 := trC_all (l := r) (fun i hi => by have := h (i + 1) (by simpa using hi); simpa [ty] using this)
    simp only [trC, h0, if_pos, h1, List.length_cons]
    omega
theorem trC_not : ∀ {l : List Ty} {k : Nat}, k < l.length → (ty l k).b = false → trC l < l.length
  | [], k, h, _ => by simp at h
  | y :: r, 0, _, h => by
    have h0 : y.b = false := h
    have := trC_le r
    simp only [trC, h0, List.length_cons]
    simp
    omega
  | y :: r, k + 1, h, hb => by
    have := trC_not (l := r) (k := k) (by simpa using h) (by simpa [ty] using hb)
    simp only [trC, List.length_cons]
    split <;> omega
set_option maxHeartbeats 2000000 in
theorem rf_truths (l : List Ty) (A : Option Addr) (c : Nat) (w : World) (hT : Tys w.heap.size w A l) (hl : l.length ≤ 1000000000) :
    Calls Try.prog 86 #[.slice A l.length c] w fun e w' => e = .returned (.bool (trC l == l.length)) ∧ w = w' := by
  have HT := Lib.hid hT
  obtain ⟨R, hR⟩ : ∃ R, (trC l == l.length) = R := ⟨_, rfl⟩
  have HR := Lib.hid hR
  rw [hR]
  clear hR hT
  go_enter Try.func86, Try.ntmps86
  go_wp2
  go_loopw [3] (fun i wr => ∃ k : Nat, k ≤ l.length ∧ i = .int .i64 (k : Int) ∧ Hid (∀ j, j < k → (ty l j).b = true) ∧ w = wr) (fun i _ => l.length - (intOf i).toNat)
  case atStart => exact ⟨0, Nat.zero_le _, rfl, Lib.hid (fun j hj => by omega), rfl⟩
  case round =>
    obtain ⟨k, hk, rfl, HK, rfl⟩ := hrel
    by_cases hlt : k < l.length
    · have l1 : (k : Int) < (l.length : Int) := by omega
      obtain ⟨b, f0, rfl, hbl, hc⟩ := HT.out (by omega)
      obtain ⟨d0, d1, d2⟩ := hc k hlt
      clear hc
      obtain ⟨yb, hy⟩ : ∃ yb, (ty l k).b = yb := ⟨_, rfl⟩
      rw [hy] at d0
      cases yb
      · have X : Hid (R = false) := Lib.hid (by rw [← HR.out, beq_eq_false_iff_ne]; have := trC_not hlt hy; omega)
        clear hy
        obtain rfl := X.out
        go_wp2
        go_ret
        exact ⟨rfl, by first | rfl | trivial⟩
      · have HK2 : Hid (∀ j, j < k + 1 → (ty l j).b = true) := Lib.hid (fun j hj => by
          rcases (by omega : j < k ∨ j = k) with h | rfl
          · exact HK.out j h
          · exact hy)
        clear hy
        go_wp2
        go_roundw
        case rel => exact ⟨k + 1, by omega, by go_num, HK2, by first | rfl | trivial⟩
        case measure => simp [intOf]; try omega
    · have l1 : ¬ (k : Int) < (l.length : Int) := by omega
      obtain rfl : k = l.length := by omega
      have X : Hid (R = true) := Lib.hid (by rw [← HR.out, trC_all HK.out]; simp)
      obtain rfl := X.out
      go_wp2
      go_ret
      exact ⟨rfl, by first | rfl | trivial⟩
/-- The i-th of the variables. -/
def vr0 : Vr := ⟨.empty, false, 0, 0⟩
def va (l : List Vr) (i : Nat) : Vr := l.getD i vr0
/-- The variables lie at A, below block B. -/
def Vars (B : Nat) (w : World) (A : Option Addr) (l : List Vr) : Prop :=
  0 < l.length → ∃ b f, A = some ⟨b, f, none⟩ ∧ b < B ∧ ∀ i, i < l.length → w.cell? ⟨b, f + i * 4, none⟩ = some (.string (va l i).nm) ∧ w.cell? ⟨b, f + i * 4 + 1, none⟩ = some (.bool (va l i).b) ∧ w.cell? ⟨b, f + i * 4 + 2, none⟩ = some (.int .i64 (va l i).lo) ∧ w.cell? ⟨b, f + i * 4 + 3, none⟩ = some (.int .i64 (va l i).hi)
theorem Vars.under {B : Nat} {w w' : World} {A : Option Addr} {l : List Vr} (h : Vars B w A l) (hb : Below B w w') : Vars B w' A l := fun hp => by
  obtain ⟨b, f, e, hB, hc⟩ := h hp
  exact ⟨b, f, e, hB, fun i hi => ⟨(hb.cell (p := ⟨b, f + i * 4, none⟩) hB).trans (hc i hi).1, (hb.cell (p := ⟨b, f + i * 4 + 1, none⟩) hB).trans (hc i hi).2.1, (hb.cell (p := ⟨b, f + i * 4 + 2, none⟩) hB).trans (hc i hi).2.2.1, (hb.cell (p := ⟨b, f + i * 4 + 3, none⟩) hB).trans (hc i hi).2.2.2⟩⟩
theorem Vars.more {B B' : Nat} {w : World} {A : Option Addr} {l : List Vr} (h : Vars B w A l) (hB : B ≤ B') : Vars B' w A l := fun hp => by
  obtain ⟨b, f, e, hb, hc⟩ := h hp
  exact ⟨b, f, e, by omega, hc⟩
theorem Vars.step {w w' : World} {A : Option Addr} {l : List Vr} (h : Vars w.heap.size w A l) (hb : Below w.heap.size w w') : Vars w'.heap.size w' A l := (h.under hb).more hb.size
/-- The first variable of the name. -/
def idxN (m : ByteArray) : List Vr → Option Nat
  | [] => none
  | v :: r => if v.nm.toList == m.toList then some 0 else (idxN m r).map (· + 1)
theorem idx_some {m : ByteArray} : ∀ {l : List Vr} {k : Nat}, k < l.length → ((va l k).nm.toList == m.toList) = true → (∀ j, j < k → ((va l j).nm.toList == m.toList) = false) → idxN m l = some k
  | [], k, h, _, _ => by simp at h
  | v :: r, 0, _, h, _ => by
    have h0 : (v.nm.toList == m.toList) = true := h
    show (if v.nm.toList == m.toList then some 0 else _) = _
    rw [if_pos h0]
  | v :: r, k + 1, h, h1, hn => by
    have h0 : (v.nm.toList == m.toList) = false := hn 0 (by omega)
    have := idx_some (l := r) (k := k) (by simpa using h) (by simpa [va] using h1) (fun j hj => by have := hn (j + 1) (by omega); simpa [va] using this)
    show (if v.nm.toList == m.toList then some 0 else (idxN m r).map (· + 1)) = _
    rw [h0, this]; rfl
theorem idx_none {m : ByteArray} : ∀ {l : List Vr}, (∀ j, j < l.length → ((va l j).nm.toList == m.toList) = false) → idxN m l = none
  | [], _ => rfl
  | v :: r, hn => by
    have h0 : (v.nm.toList == m.toList) = false := hn 0 (by simp)
    have := idx_none (l := r) (fun j hj => by have := hn (j + 1) (by simpa using hj); simpa [va] using this)
    show (if v.nm.toList == m.toList then some 0 else (idxN m r).map (· + 1)) = _
    rw [h0, this]; rfl
def idxI (m : ByteArray) (l : List Vr) : Int := match idxN m l with | some k => (k : Int) | none => -1
set_option maxHeartbeats 2000000 in
theorem rf_Index (l : List Vr) (A : Option Addr) (c : Nat) (m : ByteArray) (w : World) (hT : Vars w.heap.size w A l) (hl : l.length ≤ 1000000000) :
    Calls Try.prog 29 #[.slice A l.length c, .string m] w fun e w' => e = .returned (.int .i64 (idxI m l)) ∧ w = w' := by
  have HT := Lib.hid hT
  obtain ⟨R, hR⟩ : ∃ R, idxI m l = R := ⟨_, rfl⟩
  have HR := Lib.hid hR
  rw [hR]
  clear hR hT
  go_enter Try.func29, Try.ntmps29
  go_wp2
  go_loopw [5] (fun i wr => ∃ k : Nat, k ≤ l.length ∧ i = .int .i64 (k : Int) ∧ Hid (∀ j, j < k → ((va l j).nm.toList == m.toList) = false) ∧ w = wr) (fun i _ => l.length - (intOf i).toNat)
  case atStart => exact ⟨0, Nat.zero_le _, rfl, Lib.hid (fun j hj => by omega), rfl⟩
  case round =>
    obtain ⟨k, hk, rfl, HK, rfl⟩ := hrel
    by_cases hlt : k < l.length
    · have l1 : (k : Int) < (l.length : Int) := by omega
      obtain ⟨b, f0, rfl, hbl, hc⟩ := HT.out (by omega)
      obtain ⟨d0, d1, d2, d3⟩ := hc k hlt
      clear hc
      obtain ⟨q, hq⟩ : ∃ q, ((va l k).nm.toList == m.toList) = q := ⟨_, rfl⟩
      have HQ := Lib.hid hq
      generalize va l k = v at d0 d1 d2 d3 hq
      cases q
      · have HK2 : Hid (∀ j, j < k + 1 → ((va l j).nm.toList == m.toList) = false) := Lib.hid (fun j hj => by
          rcases (by omega : j < k ∨ j = k) with h | rfl
          · exact HK.out j h
          · exact HQ.out)
        go_wp2
        go_roundw
        case rel => exact ⟨k + 1, by omega, by go_num, HK2, by first | rfl | trivial⟩
        case measure => simp [intOf]; try omega
      · have X : Hid (R = (k : Int)) := Lib.hid (by rw [← HR.out]; unfold idxI; rw [idx_some hlt HQ.out HK.out])
        obtain rfl := X.out
        go_wp2
        go_ret
        exact ⟨rfl, by first | rfl | trivial⟩
    · have l1 : ¬ (k : Int) < (l.length : Int) := by omega
      obtain rfl : k = l.length := by omega
      have X : Hid (R = -1) := Lib.hid (by rw [← HR.out]; unfold idxI; rw [idx_none HK.out])
      obtain rfl := X.out
      go_wp2
      go_ret
      exact ⟨rfl, by first | rfl | trivial⟩
theorem lw_few (n : Nat) (A : Option Addr) (c : Nat) (w : World) : Calls Try.prog 19 #[.slice A n c] w fun e w' => e = .returned (.bool (decide (n ≤ 20))) ∧ w = w' := by
  have k1 : Hid (decide ((n : Int) ≤ 20) = decide (n ≤ 20)) := Lib.hid (by rw [decide_eq_decide]; omega)
  rw [← k1.out]
  go_enter Try.func19, Try.ntmps19
  go_wp2
  go_ret
  exact ⟨rfl, rfl⟩
end Go.Proofs.Ytcdpjodnbegepaa
