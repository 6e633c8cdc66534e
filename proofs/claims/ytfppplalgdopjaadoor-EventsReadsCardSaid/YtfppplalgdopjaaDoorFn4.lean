/- The law's comparison of events; layer 28 (events). -/
import Derived.Test.YtfppplalgdopjaaDoorFn3
namespace Go.Proofs.YtfppplalgdopjaaDoor
open Go.RowKit

section
variable {w w' : World} {B B' : Nat} {A : Option Addr} {c : Nat} {cs : List Value}
/-- The slice whose address is A and capacity c begins with the cells cs, below block B. -/
def RowG (w : World) (B : Nat) (A : Option Addr) (c : Nat) (cs : List Value) : Prop := (cs = [] ∧ (A = none → c = 0)) ∨ ∃ b off, A = some ⟨b, off, none⟩ ∧ b < B ∧ ∀ i u, cs[i]? = some u → w.cell? ⟨b, off + i, none⟩ = some u
section
variable {w w' : World} {B B' : Nat} {A : Option Addr} {c : Nat} {cs : List Value}
theorem RowG.below (h : RowG w B A c cs) (hb : Below B w w') : RowG w' B A c cs := by
  rcases h with h | ⟨b, off, e, hB, hc⟩
  · exact .inl h
  · exact .inr ⟨b, off, e, hB, fun i u hi => (hb.cell (p := ⟨b, off + i, none⟩) hB).trans (hc i u hi)⟩
theorem RowG.more (h : RowG w B A c cs) (hB : B ≤ B') : RowG w B' A c cs := by
  rcases h with h | ⟨b, off, e, hb, hc⟩
  · exact .inl h
  · exact .inr ⟨b, off, e, by omega, hc⟩
theorem RowG.step (h : RowG w w.heap.size A c cs) (hb : Below w.heap.size w w') : RowG w' w'.heap.size A c cs := (h.below hb).more hb.size
theorem RowG.nil : RowG w B none 0 [] := .inl ⟨rfl, fun _ => rfl⟩
theorem RowG.out (h : RowG w B A c cs) (hp : 0 < cs.length) : ∃ b off, A = some ⟨b, off, none⟩ ∧ b < B ∧ ∀ i u, cs[i]? = some u → w.cell? ⟨b, off + i, none⟩ = some u := by
  rcases h with ⟨h, _⟩ | h
  · subst h; simp at hp
  · exact h
theorem RowG.take (h : RowG w B A c cs) (hp : 0 < cs.length) (k : Nat) : RowG w B A c (cs.take k) := by
  obtain ⟨b, off, e, hb, hc⟩ := h.out hp
  refine .inr ⟨b, off, e, hb, fun i u hi => hc i u ?_⟩
  rw [List.getElem?_take] at hi
  split at hi
  · exact hi
  · cases hi
end
theorem RowG.own {w : World} {base : Nat} {e : TypeId} {size n : Nat} {v : Value} {xs : List Value} (_hs : 0 < size) (h : w.ownsRow base e size v n xs) : ∃ A c, v = .slice A n c ∧ RowG w w.heap.size A c xs := by
  obtain ⟨hl, h⟩ := h
  rcases h with ⟨rfl, rfl⟩ | ⟨g, cap, cur, rfl, hg, hh, hn, hc, hsz, htk⟩
  · exact ⟨none, 0, rfl, .inl ⟨List.eq_nil_of_length_eq_zero (by rw [hl]; exact Nat.zero_mul _), fun _ => rfl⟩⟩
  · have hB : Blk w g e cur := hh
    refine ⟨_, cap, rfl, .inr ⟨g, 0, rfl, hB.lt, fun i u hi => ?_⟩⟩
    rw [Nat.zero_add, hB.cell]
    rw [← htk, List.getElem?_take] at hi
    split at hi
    · rw [← Array.getElem?_toList]; exact hi
    · cases hi
theorem RowG.made {w : World} {t : TypeId} {cs : List Value} (c : Nat) : RowG (w.alloc (.cells cs.toArray t)) (w.alloc (.cells cs.toArray t)).heap.size (some ⟨w.heap.size, 0, none⟩) c cs := by
  have hB := Blk.new w t cs.toArray
  refine .inr ⟨_, 0, rfl, hB.lt, fun i u hi => ?_⟩
  rw [Nat.zero_add, hB.cell]
  simpa using hi
end
theorem ev_at : ∀ {L : List Ev} {i : Nat} {x : Ev}, L[i]? = some x → (evC L)[i * 3]? = some (.int .i64 x.a) ∧ (evC L)[i * 3 + 1]? = some (.int .i64 x.k) ∧ (evC L)[i * 3 + 2]? = some (.int .i64 x.l)
  | [], i, x, h => by simp at h
  | y :: t, 0, x, h => by
    simp at h
    subst h
    simp [evC, evR]
  | y :: t, i + 1, x, h => by
    have h2 := ev_at (L := t) (i := i) (x := x) (by simpa using h)
    have e : ∀ j, (evC (y :: t))[(i + 1) * 3 + j]? = (evC t)[i * 3 + j]? := fun j => by
      show (evR y ++ evC t)[(i + 1) * 3 + j]? = _
      rw [List.getElem?_append_right (by simp [evR]; omega)]
      congr 1
      simp [evR]
      omega
    exact ⟨(e 0).trans h2.1, (e 1).trans h2.2.1, (e 2).trans h2.2.2⟩
set_option maxHeartbeats 4000000 in
theorem l_same {w : World} {A B : Option Addr} {c d : Nat} {L : List Ev} (hA : RowG w w.heap.size A c (evC L)) (hB : RowG w w.heap.size B d (evC L)) (hl : L.length ≤ 1000000) : Calls Tryd.prog 16 #[.slice A L.length c, .slice B L.length d] w fun en w' => en = .returned (.bool true) ∧ Below w.heap.size w w' := by
  have HT := Lib.hid hA
  have HU := Lib.hid hB
  have g1 : ((L.length : Int) != (L.length : Int)) = false := by simp
  clear hA hB
  go_enter Tryd.func16, Tryd.ntmps16
  go_wp2
  go_loopw [13] (fun i wr => ∃ k : Nat, k ≤ L.length ∧ i = .int .i64 (k : Int) ∧ Hid (Below w.heap.size w wr)) (fun i _ => L.length - (intOf i).toNat)
  case atStart => exact ⟨0, Nat.zero_le _, rfl, Lib.hid (Below.refl _ _)⟩
  case round =>
    obtain ⟨k, hk, rfl, HB⟩ := hrel
    by_cases hlt : k < L.length
    · have l1 : (k : Int) < (L.length : Int) := by omega
      have l0 : (0 : Int) ≤ (k : Int) := by omega
      obtain ⟨b1, f1, rfl, hb1, hc1⟩ := HT.out.out (by rw [evC_len]; omega)
      obtain ⟨b2, f2, rfl, hb2, hc2⟩ := HU.out.out (by rw [evC_len]; omega)
      obtain ⟨x, hx⟩ : ∃ x, L[k]? = some x := ⟨_, List.getElem?_eq_getElem hlt⟩
      obtain ⟨n0, n1, n2⟩ := ev_at hx
      have y0 := (HB.out.cell (p := ⟨b1, f1 + k * 3, none⟩) hb1).trans (hc1 _ _ n0)
      have y1 := (HB.out.cell (p := ⟨b1, f1 + (k * 3 + 1), none⟩) hb1).trans (hc1 _ _ n1)
      have y2 := (HB.out.cell (p := ⟨b1, f1 + (k * 3 + 2), none⟩) hb1).trans (hc1 _ _ n2)
      have z0 := (HB.out.cell (p := ⟨b2, f2 + k * 3, none⟩) hb2).trans (hc2 _ _ n0)
      have z1 := (HB.out.cell (p := ⟨b2, f2 + (k * 3 + 1), none⟩) hb2).trans (hc2 _ _ n1)
      have z2 := (HB.out.cell (p := ⟨b2, f2 + (k * 3 + 2), none⟩) hb2).trans (hc2 _ _ n2)
      rw [← Nat.add_assoc] at y1 y2 z1 z2
      clear hc1 hc2 n0 n1 n2 hx
      obtain ⟨x0, x1, x2⟩ := x
      dsimp only at y0 y1 y2 z0 z1 z2
      go_wp2
      go_big_quiet (fail)
      go_wp2
      go_roundw
      case rel => exact ⟨k + 1, by omega, by go_num, Lib.hid (by first | exact below_drewN HB.out _ | exact HB.out)⟩
      case measure => simp [intOf]; try omega
    · have l1 : ¬ (k : Int) < (L.length : Int) := by omega
      obtain rfl : k = L.length := by omega
      go_wp2
      go_ret
      exact ⟨rfl, HB.out⟩
end Go.Proofs.YtfppplalgdopjaaDoor
