/- Contracts of Ident and Swap of layer 5 (perm), over the translation. -/
import Derived.Test.YthbcjjodinnnfaaFn1
import Derived.RegionTactic
import Derived.ChangeAlike
import Derived.BigRegion
namespace Go.Proofs.Ythbcjjodinnnfaa
open Go.RowKit

set_option maxHeartbeats 1000000 in
theorem perm_Ident_in (K : Nat) (w : World) (hK : K ≤ 64) :
    Calls Try.prog 11 #[.int .i64 (K : Int)] w fun r w' => ∃ g, r = .returned (.slice (some ⟨g, 0, none⟩) K K) ∧ Blk w' g 3 (intRow (idL K)) ∧ w.heap.size ≤ g ∧ Below w.heap.size w w' := by
  have hmk := run_mk K (by omega)
  go_enter Try.func11, Try.ntmps11
  go_wp2
  go_loopw [11] (fun i wr => ∃ k : Nat, k ≤ K ∧ i = .int .i64 k ∧ Blk wr w.heap.size 3 (intRow (ip K k)) ∧ Below w.heap.size w wr) (fun i _ => K - (intOf i).toNat)
  case atStart => exact ⟨0, Nat.zero_le _, rfl, by rw [ip_zero]; exact Blk.new _ _ _, (Below.refl _ _).alloc (Nat.le_refl _) _⟩
  case round =>
    obtain ⟨k, hk, rfl, hB, hb⟩ := hrel
    by_cases hlt : k < K
    · have hcell : wr.cell? ⟨w.heap.size, k, none⟩ = some (.int .i64 (li (ip K k) k)) := by rw [hB.cell]; exact intRow_at (by rw [ip_len hk]; exact hlt)
      have hfz := hB.frozen k
      have HB : Hid (Blk (wr.setCell ⟨w.heap.size, k, none⟩ (.int .i64 k)) w.heap.size 3 (intRow (ip K (k + 1)))) := by
        have := hB.set_ k (.int .i64 k); rw [intRow_set, ip_set hlt] at this; exact this
      have hlt2 : w.heap.size < wr.heap.size := hB.lt
      clear hB hmk
      go_wp2
      go_roundw
      case rel => exact ⟨k + 1, by omega, by go_num, HB.out, hb.setCell (p := ⟨w.heap.size, k, none⟩) (Nat.le_refl _) _⟩
      case measure => simp [intOf]; omega
    · obtain rfl : k = K := by omega
      rw [ip_all] at hB
      have HB := Lib.hid hB
      clear hB hmk
      go_wp2
      go_ret
      exact ⟨_, rfl, HB.out, Nat.le_refl _, hb⟩

def swapL (l : List Int) (i : Nat) : List Int := (l.set i (li l (i + 1))).set (i + 1) (li l i)
set_option maxHeartbeats 1000000 in
theorem perm_Swap_in (A : Option Addr) (ca : Nat) (l : List Int) (i : Nat) (w : World) (h : RI w w.heap.size A l) (hl : l.length ≤ 1000000000000) (h1 : i + 1 < l.length) :
    Calls Try.prog 15 #[.slice A l.length ca, .int .i64 (i : Int)] w fun r w' => ∃ g, r = .returned (.slice (some ⟨g, 0, none⟩) l.length l.length) ∧ Blk w' g 3 (intRow (swapL l i)) ∧ w.heap.size ≤ g ∧ Below w.heap.size w w' := by
  have H := Lib.hid h
  have h2 : (i : Int) < (l.length : Int) - 1 := by omega
  clear h
  go_enter Try.func15, Try.ntmps15
  go_wp2_with (first
    | (go_at_call 25; refine (perm_clone _ _ _ _ H.out (by omega)).mono ?_; rintro e w1 ⟨g, rfl, B1, hg, hb1⟩))
  have c1 : w1.cell? ⟨g, i, none⟩ = some (.int .i64 (li l i)) := by rw [B1.cell]; exact intRow_at (by omega)
  have c2 : w1.cell? ⟨g, i + 1, none⟩ = some (.int .i64 (li l (i + 1))) := by rw [B1.cell]; exact intRow_at (by omega)
  have z1 := B1.frozen i
  have z2 := B1.frozen (i + 1)
  have hlt : g < w1.heap.size := B1.lt
  have HB := Lib.hid B1
  have b1 : (i : Int) < (l.length : Int) := by omega
  have b2 : (i : Int) + 1 < (l.length : Int) := by omega
  clear B1
  have HB2 : Hid (Blk ((w1.setCell ⟨g, i, none⟩ (.int .i64 (li l (i + 1)))).setCell ⟨g, i + 1, none⟩ (.int .i64 (li l i))) g 3 (intRow (swapL l i))) := by
    have := (HB.out.set_ i (.int .i64 (li l (i + 1)))).set_ (i + 1) (.int .i64 (li l i))
    rw [intRow_set, intRow_set] at this; exact this
  have hbw : Below w.heap.size w ((w1.setCell ⟨g, i, none⟩ (.int .i64 (li l (i + 1)))).setCell ⟨g, i + 1, none⟩ (.int .i64 (li l i))) := (hb1.setCell (p := ⟨g, i, none⟩) hg _).setCell (p := ⟨g, i + 1, none⟩) hg _
  have HBW := Lib.hid hbw
  clear hbw
  go_region
  go_wp2
  go_ret
  exact ⟨g, rfl, HB2.out, hg, HBW.out.drew⟩

def swapF (l : List Int) (i : Int) : List Int := if 0 ≤ i ∧ i < (l.length : Int) - 1 then swapL l i.toNat else l
theorem swapL_len (l : List Int) (i : Nat) : (swapL l i).length = l.length := by unfold swapL; simp
theorem swapF_len (l : List Int) (i : Int) : (swapF l i).length = l.length := by unfold swapF; split; exact swapL_len _ _; rfl
set_option maxHeartbeats 1000000 in
theorem perm_Swap (A : Option Addr) (ca : Nat) (l : List Int) (i : Int) (w : World) (h : RI w w.heap.size A l) (hl : l.length ≤ 1000000000000) :
    Calls Try.prog 15 #[.slice A l.length ca, .int .i64 i] w fun r w' => ∃ g, r = .returned (.slice (some ⟨g, 0, none⟩) l.length l.length) ∧ Blk w' g 3 (intRow (swapF l i)) ∧ w.heap.size ≤ g ∧ Below w.heap.size w w' := by
  by_cases c : 0 ≤ i ∧ i < (l.length : Int) - 1
  · obtain ⟨k, rfl⟩ := Int.eq_ofNat_of_zero_le c.1
    have e : swapF l (k : Int) = swapL l k := by unfold swapF; rw [if_pos c]; rfl
    rw [e]
    exact perm_Swap_in A ca l k w h hl (by omega)
  · have e : swapF l i = l := by unfold swapF; rw [if_neg c]
    rw [e]
    clear e
    have H := Lib.hid h
    clear h
    by_cases c0 : i < 0
    · go_enter Try.func15, Try.ntmps15
      go_wp2_with (first
        | (go_at_call 25; refine (perm_clone _ _ _ _ H.out (by omega)).mono ?_; rintro e w1 ⟨g, rfl, B1, hg, hb1⟩; have HB := Lib.hid B1; clear B1))
      go_ret
      exact ⟨g, rfl, HB.out, hg, hb1⟩
    · have c1 : (l.length : Int) - 1 ≤ i := by omega
      clear c
      go_enter Try.func15, Try.ntmps15
      go_wp2_with (first
        | (go_at_call 25; refine (perm_clone _ _ _ _ H.out (by omega)).mono ?_; rintro e w1 ⟨g, rfl, B1, hg, hb1⟩; have HB := Lib.hid B1; clear B1))
      go_ret
      exact ⟨g, rfl, HB.out, hg, hb1⟩
end Go.Proofs.Ythbcjjodinnnfaa
