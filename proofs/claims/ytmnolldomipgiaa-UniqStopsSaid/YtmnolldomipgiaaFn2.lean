/- Rows of entries; the specification's Find and ahead; layer 10 (uniq). -/
import Derived.Test.YtmnolldomipgiaaFn1
import Derived.Deep.CutRange
import Derived.Deep.DeepCutAuto
import Derived.Deep.RegionLaw
import Derived.Deep.RegionWith
namespace Go.Proofs.Ytmnolldomipgiaa
open Go.RowKit Go.Maps

def enR (x : En) : Array Value := #[.int .i64 x.lo, .int .i64 x.hi, .int .i64 x.id]
def enV (x : En) : Value := .agg (enR x)
def en0 : En := ⟨0, 0, 0⟩
def ea (l : List En) (k : Nat) : En := l.getD k en0
/-- The cells of the entries l lie at A, in a block below B. -/
def RowE (B : Nat) (w : World) (A : Option Addr) (l : List En) : Prop := 0 < l.length → ∃ b f, A = some ⟨b, f, none⟩ ∧ b < B ∧ ∀ k, k < l.length →
  w.cell? ⟨b, f + k * 3, none⟩ = some (.int .i64 (ea l k).lo) ∧ w.cell? ⟨b, f + k * 3 + 1, none⟩ = some (.int .i64 (ea l k).hi) ∧ w.cell? ⟨b, f + k * 3 + 2, none⟩ = some (.int .i64 (ea l k).id)
theorem RowE.nil {B : Nat} {w : World} {A : Option Addr} : RowE B w A [] := fun h => absurd h (by decide)
theorem RowE.below {B C : Nat} {w w' : World} {A l} (h : RowE B w A l) (hb : Below C w w') (hC : B ≤ C) : RowE B w' A l := fun hl => by
  obtain ⟨b, f, e, hB, hc⟩ := h hl
  refine ⟨b, f, e, hB, fun k hk => ?_⟩
  have hlt : b < C := by omega
  obtain ⟨h0, h1, h2⟩ := hc k hk
  exact ⟨(hb.cell (p := ⟨b, _, none⟩) hlt).trans h0, (hb.cell (p := ⟨b, _, none⟩) hlt).trans h1, (hb.cell (p := ⟨b, _, none⟩) hlt).trans h2⟩
theorem RowE.mono {B C : Nat} {w : World} {A l} (h : RowE B w A l) (hC : B ≤ C) : RowE C w A l := fun hl => by
  obtain ⟨b, f, e, hB, hc⟩ := h hl
  exact ⟨b, f, e, by omega, hc⟩
theorem RowE.step {w w' : World} {A l} (h : RowE w.heap.size w A l) (hb : Below w.heap.size w w') : RowE w'.heap.size w' A l := (h.below hb (Nat.le_refl _)).mono hb.size
theorem cell_of_heap {w w' : World} {a : Addr} (h : w'.heap[a.block]? = w.heap[a.block]?) : w'.cell? a = w.cell? a := World.cell?_of_block (w := w) h
/-- A map's block is no row's. -/
theorem RowE.grown {B : Nat} {w w' : World} {A l} {g : Nat} (h : RowE B w A l) (hg : w.grownBy w' (some g)) {es c} (hm : w.heap[g]? = some (.map es c)) (hB : B ≤ w.heap.size) : RowE B w' A l := fun hl => by
  obtain ⟨b, f, e, hb, hc⟩ := h hl
  have hne : b ≠ g := fun e => by
    subst e
    have := (hc 0 hl).1
    simp [World.cell?, hm] at this
  have key : ∀ j, w'.cell? ⟨b, j, none⟩ = w.cell? ⟨b, j, none⟩ := fun j => cell_of_heap (a := ⟨b, j, none⟩) (hg.block b (by omega) (by simp [hne]))
  refine ⟨b, f, e, hb, fun k hk => ?_⟩
  obtain ⟨h0, h1, h2⟩ := hc k hk
  exact ⟨(key _).trans h0, (key _).trans h1, (key _).trans h2⟩
theorem UT.map {w : World} {b n M} (h : UT w b n M) : ∃ es c, w.heap[b]? = some (.map es c) := by
  obtain ⟨D, ⟨es, clock, hb, _⟩, _⟩ := h
  exact ⟨es, clock, hb⟩
theorem ea_take {l : List En} {k : Nat} (h : k < l.length) : l.take (k + 1) = l.take k ++ [ea l k] := by
  rw [List.take_succ_eq_append_getElem h]; unfold ea; simp [List.getD, List.getElem?_eq_getElem h]
theorem ea_mem {l : List En} {k : Nat} (h : k < l.length) : ea l k ∈ l := by unfold ea; simp [List.getD, List.getElem?_eq_getElem h]
def keyB (lo hi : Int) (e : En) : Bool := decide (e.lo = lo) && decide (e.hi = hi)
/-- The place of a pair. -/
def idxE : List En → Int → Int → Option Nat
  | [], _, _ => none
  | e :: r, lo, hi => if keyB lo hi e = true then some 0 else (idxE r lo hi).map (· + 1)
theorem idxE_some : ∀ {l : List En} {lo hi : Int} {k : Nat}, idxE l lo hi = some k → k < l.length ∧ (ea l k).lo = lo ∧ (ea l k).hi = hi
  | [], _, _, _, h => by cases h
  | e :: r, lo, hi, k, h => by
    unfold idxE at h
    split at h
    · rename_i hk
      injection h with h; subst h
      simp [keyB] at hk
      exact ⟨by simp, hk⟩
    · cases q : idxE r lo hi with
      | none => rw [q] at h; cases h
      | some j =>
        rw [q] at h; simp at h; subst h
        obtain ⟨h1, h2, h3⟩ := idxE_some q
        exact ⟨by simp; omega, h2, h3⟩
theorem idxE_none : ∀ {l : List En} {lo hi : Int}, idxE l lo hi = none → ∀ e ∈ l, keyB lo hi e = false
  | [], _, _, _, e, he => by cases he
  | x :: r, lo, hi, h, e, he => by
    unfold idxE at h
    split at h
    · cases h
    · rename_i hk
      rcases List.mem_cons.1 he with rfl | he
      · simpa using hk
      · refine idxE_none ?_ e he
        cases q : idxE r lo hi with
        | none => rfl
        | some j => rw [q] at h; cases h
theorem idxE_hit : ∀ {l : List En} {lo hi : Int} {k : Nat}, k < l.length → (∀ j, j < k → keyB lo hi (ea l j) = false) → keyB lo hi (ea l k) = true → idxE l lo hi = some k
  | [], _, _, _, h, _, _ => by simp at h
  | e :: r, lo, hi, 0, _, _, h => by unfold idxE; exact if_pos h
  | e :: r, lo, hi, k + 1, hk, hj, h => by
    unfold idxE
    have h0 : keyB lo hi e = false := hj 0 (by omega)
    rw [if_neg (by rw [h0]; decide), idxE_hit (by simpa using hk) (fun j hj2 => hj (j + 1) (by omega)) h]
    rfl
theorem idxE_no {l : List En} {lo hi : Int} (h : ∀ e ∈ l, keyB lo hi e = false) : idxE l lo hi = none := by
  cases q : idxE l lo hi with
  | none => rfl
  | some k =>
    obtain ⟨h1, h2, h3⟩ := idxE_some q
    have := h _ (ea_mem h1)
    simp [keyB, h2, h3] at this
def idxZ (l : List En) (lo hi : Int) : Int := match idxE l lo hi with | some k => k | none => -1
set_option maxHeartbeats 4000000 in
theorem r_Find (l : List En) (lo hi : Int) (A : Option Addr) (ca : Nat) (w : World) (hA : RowE w.heap.size w A l) (hl : l.length ≤ 1000000) :
    Calls Try.prog 10 #[.slice A l.length ca, .int .i64 lo, .int .i64 hi] w fun e w' => e = .returned (.int .i64 (idxZ l lo hi)) ∧ w = w' := by
  have HA := Lib.hid hA
  have HL := Lib.hid hl
  clear hA hl
  go_enter Try.func10, Try.ntmps10
  go_wp2
  go_loopw [7] (fun i wr => ∃ k : Nat, k ≤ l.length ∧ i = .int .i64 (k : Int) ∧ Hid (∀ j, j < k → keyB lo hi (ea l j) = false) ∧ Hid (w = wr)) (fun i _ => l.length - (intOf i).toNat)
  case atStart => exact ⟨0, Nat.zero_le _, rfl, Lib.hid (fun j h => absurd h (by omega)), Lib.hid rfl⟩
  case round =>
    obtain ⟨k, hk, rfl, HN, HW⟩ := hrel
    have hbd := HL.out
    by_cases hlt : k < l.length
    · have l1 : (k : Int) < (l.length : Int) := by omega
      obtain ⟨b, f0, rfl, hbl, hc⟩ := HA.out (by omega)
      obtain ⟨d0, d1, -⟩ := hc k hlt
      rw [HW.out] at d0 d1
      have HH : Hid (keyB lo hi (ea l k) = true → idxZ l lo hi = (k : Int)) := Lib.hid (fun h => by unfold idxZ; rw [idxE_hit hlt HN.out h])
      have HX : Hid (keyB lo hi (ea l k) = false → ∀ j, j < k + 1 → keyB lo hi (ea l j) = false) := Lib.hid (fun h j hj => by
        by_cases e : j = k
        · subst e; exact h
        · exact HN.out j (by omega))
      clear hc
      generalize ea l k = x at *
      by_cases h1 : x.lo = lo
      · have b1 : (x.lo == lo) = true := by simp [h1]
        by_cases h2 : x.hi = hi
        · have b2 : (x.hi == hi) = true := by simp [h2]
          have X := Lib.hid (HH.out (by simp [keyB, h1, h2]))
          clear HH HX h1 h2
          go_wp2
          go_ret
          exact ⟨ret_i X.out.symm, HW.out⟩
        · have b2 : (x.hi == hi) = false := by simp [h2]
          have X := Lib.hid (HX.out (by simp [keyB, h2]))
          clear HH HX h1 h2
          go_wp2
          go_roundw
          case rel => exact ⟨k + 1, by omega, by go_num, X, HW⟩
          case measure => simp [intOf]; try omega
      · have b1 : (x.lo == lo) = false := by simp [h1]
        have X := Lib.hid (HX.out (by simp [keyB, h1]))
        clear HH HX h1
        go_wp2
        go_roundw
        case rel => exact ⟨k + 1, by omega, by go_num, X, HW⟩
        case measure => simp [intOf]; try omega
    · have l1 : ¬ (k : Int) < (l.length : Int) := by omega
      obtain rfl : k = l.length := by omega
      have X : Hid (idxZ l lo hi = -1) := Lib.hid (by
        unfold idxZ
        rw [idxE_no (fun e he => ?_)]
        obtain ⟨j, hj, rfl⟩ := List.mem_iff_getElem.1 he
        have := HN.out j hj
        unfold ea at this
        simpa [List.getD, List.getElem?_eq_getElem hj] using this)
      go_wp2
      go_ret
      exact ⟨ret_i X.out.symm, HW.out⟩
/-- The order of Each. -/
def aheadB (a b : En) : Bool := if a.id = b.id then (if a.lo = b.lo then decide (a.hi < b.hi) else decide (a.lo < b.lo)) else decide (a.id < b.id)
theorem r_ahead (a b : En) (w : World) : Calls Try.prog 21 #[enV a, enV b] w fun e w' => e = .returned (.bool (aheadB a b)) ∧ Below w.heap.size w w' := by
  have HB : Hid (Below w.heap.size w ((w.alloc (.cells (enR a) 38)).alloc (.cells (enR b) 38))) := Lib.hid (((Below.refl _ _).alloc (Nat.le_refl _) _).alloc (by simp) _)
  have HZ : Hid (∀ p q, (a.id != b.id) = p → (a.lo != b.lo) = q → aheadB a b = if p = true then decide (a.id < b.id) else if q = true then decide (a.lo < b.lo) else decide (a.hi < b.hi)) := Lib.hid (fun p q hp hq => by
    unfold aheadB
    rw [← hp, ← hq]
    by_cases h1 : a.id = b.id <;> by_cases h2 : a.lo = b.lo <;> simp [h1, h2])
  obtain ⟨p, hp⟩ : ∃ p, (a.id != b.id) = p := ⟨_, rfl⟩
  obtain ⟨q, hq⟩ : ∃ q, (a.lo != b.lo) = q := ⟨_, rfl⟩
  rw [HZ.out p q hp hq]
  clear HZ
  unfold enV enR at *
  cases p <;> cases q
  all_goals
    go_enter Try.func21, Try.ntmps21
    go_wp2
    go_ret
    exact ⟨ret_b (by simp), HB.out⟩
end Go.Proofs.Ytmnolldomipgiaa
