/- Contract of Inverse of layer 5 (perm), over the translation. -/
import Derived.Test.YthbcjjodinnnfaaFn9
namespace Go.Proofs.Ythbcjjodinnnfaa
open Go.RowKit

theorem pig : ∀ (n m : Nat) (f : Nat → Nat), (∀ i, i < n → f i < m) → (∀ i j, i < j → j < n → f i ≠ f j) → n ≤ m
  | 0, _, _, _, _ => Nat.zero_le _
  | n + 1, m, f, hb, hi => by
    have h0 := hb n (by omega)
    have := pig n (m - 1) (fun i => if f n < f i then f i - 1 else f i) (fun i h => by
      have h1 := hb i (by omega)
      have h2 := hi i n h (by omega)
      show (if f n < f i then f i - 1 else f i) < m - 1
      split <;> omega) (fun i j h1 h2 => by
      have a := hi i n (by omega) (by omega)
      have b := hi j n (by omega) (by omega)
      have c := hi i j h1 (by omega)
      show (if f n < f i then f i - 1 else f i) ≠ (if f n < f j then f j - 1 else f j)
      split <;> split <;> omega)
    omega
theorem onto {l : List Int} (h : okTo l l.length) {x : Nat} (hx : x < l.length) : ∃ k, k < l.length ∧ li l k = (x : Int) := by
  apply Classical.byContradiction
  intro hn
  have hn' : ∀ k, k < l.length → li l k ≠ (x : Int) := fun k hk e => hn ⟨k, hk, e⟩
  have := pig l.length (l.length - 1) (fun i => if x < (li l i).toNat then (li l i).toNat - 1 else (li l i).toNat) (fun i hi => by
    have h1 := (h i hi).1
    have h2 := hn' i hi
    show (if x < (li l i).toNat then (li l i).toNat - 1 else (li l i).toNat) < l.length - 1
    split <;> omega) (fun i j hij hj => by
    have h1 := (h i (by omega)).1
    have h2 := hn' i (by omega)
    have h3 := (h j hj).1
    have h4 := hn' j hj
    have h5 := (h j hj).2 i hij
    show (if x < (li l i).toNat then (li l i).toNat - 1 else (li l i).toNat) ≠ (if x < (li l j).toNat then (li l j).toNat - 1 else (li l j).toNat)
    split <;> split <;> omega)
  omega
theorem place_in {l : List Int} (h : okTo l l.length) {x : Nat} (hx : x < l.length) : 0 ≤ placeL l (x : Int) := by
  obtain ⟨k, hk, e⟩ := onto h hx
  rw [← e, place_of_right h hk]; omega
theorem invAt_inv {l : List Int} (h : okTo l l.length) : invAt l l.length = invL l := by
  rw [invAt_all]
  unfold invL invTo
  apply List.ext_getElem
  · simp
  · intro i h1 h2
    simp only [List.getElem_map, List.getElem_range]
    rw [if_pos (place_in h (by simpa using h1))]

set_option maxHeartbeats 1000000 in
theorem perm_Inverse_yes (A : Option Addr) (ca : Nat) (l : List Int) (w : World) (h : RI w w.heap.size A l) (hl : l.length ≤ 1000000000000) (hR : rightB l = true) :
    Calls Try.prog 13 #[.slice A l.length ca] w fun r w' => ∃ g, r = .returned (.slice (some ⟨g, 0, none⟩) l.length l.length) ∧ Blk w' g 3 (intRow (invL l)) ∧ w.heap.size ≤ g ∧ Below w.heap.size w w' := by
  have H := Lib.hid h
  have hmk := run_mk l.length hl
  have HO := Lib.hid (right_ok hR)
  clear h
  go_enter Try.func13, Try.ntmps13
  go_wp2_with (first
    | (go_at_call 8; refine (perm_Right _ _ _ _ H.out (by omega)).mono ?_; rintro e w1 ⟨rfl, hb1⟩; rw [hR]))
  have hs1 : w.heap.size ≤ w1.heap.size := hb1.size
  go_loopw [14] (fun i wr => ∃ k : Nat, k ≤ l.length ∧ i = .int .i64 k ∧ Blk wr w1.heap.size 3 (intRow (invAt l k)) ∧ Below w.heap.size w wr) (fun i _ => l.length - (intOf i).toNat)
  case atStart => exact ⟨0, Nat.zero_le _, rfl, by rw [invAt_zero]; exact Blk.new _ _ _, hb1.alloc hs1 _⟩
  case round =>
    obtain ⟨k, hk, rfl, hB, hb⟩ := hrel
    clear hmk
    by_cases hlt : k < l.length
    · obtain ⟨b, o, rfl, hg, hc⟩ := H.out (by omega)
      have e1 := (hb.cell (p := ⟨b, o + k, none⟩) hg).trans (hc k hlt)
      have h1' : (k : Int) < (l.length : Int) := by omega
      have hok := (HO.out k hlt).1
      obtain ⟨x, hx⟩ := Int.eq_ofNat_of_zero_le hok.1
      rw [hx] at e1 hok
      have hxl : x < l.length := by omega
      have hxl' : (x : Int) < (l.length : Int) := by omega
      have hcell : wr.cell? ⟨w1.heap.size, x, none⟩ = some (.int .i64 (li (invAt l k) x)) := by rw [hB.cell, intRow_at (by rw [invAt_len]; omega)]
      have hfz := hB.frozen x
      have hlt2 : w1.heap.size < wr.heap.size := hB.lt
      have HB2 : Hid (Blk (wr.setCell ⟨w1.heap.size, x, none⟩ (.int .i64 (k : Int))) w1.heap.size 3 (intRow (invAt l (k + 1)))) := by
        have := hB.set_ x (.int .i64 (k : Int)); rw [intRow_set, invAt_set HO.out hlt hx] at this; exact this
      clear hB hx hok hc
      go_wp2
      go_roundw
      case rel => exact ⟨k + 1, by omega, by go_num, HB2.out, hb.setCell (p := ⟨w1.heap.size, x, none⟩) hs1 _⟩
      case measure => simp [intOf]; omega
    · obtain rfl : k = l.length := by omega
      have HB2 : Hid (Blk wr w1.heap.size 3 (intRow (invL l))) := by
        show Blk _ _ _ _; rw [← invAt_inv HO.out]; exact hB
      clear hB
      go_wp2
      go_ret
      exact ⟨_, rfl, HB2.out, hs1, hb⟩
end Go.Proofs.Ythbcjjodinnnfaa
