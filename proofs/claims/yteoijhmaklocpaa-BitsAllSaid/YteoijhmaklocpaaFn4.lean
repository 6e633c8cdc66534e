/- Contracts of Next of layer 2 (bits), over the translation. -/
import Derived.Test.YteoijhmaklocpaaBase
import Derived.Laws.CopyOwn
namespace Go.Proofs.Yteoijhmaklocpaa
open Go.RowKit
def nextL : List Bool → List Bool
  | [] => []
  | false :: l => true :: l
  | true :: l => false :: nextL l
def nx (l : List Bool) (k : Nat) : List Bool := List.replicate k false ++ l.drop k
theorem nx_zero (l : List Bool) : nx l 0 = l := rfl
theorem nx_len {l : List Bool} {k : Nat} (h : k ≤ l.length) : (nx l k).length = l.length := by unfold nx; rw [List.length_append, List.length_replicate, List.length_drop]; omega
theorem nx_lb {l : List Bool} {k : Nat} (h : k < l.length) : lb (nx l k) k = lb l k := by
  unfold nx; rw [drop_lb h]; unfold lb; simp [List.getD]
theorem nx_set {l : List Bool} {k : Nat} (h : k < l.length) (b : Bool) : (nx l k).set k b = List.replicate k false ++ (b :: l.drop (k + 1)) := by
  unfold nx; rw [drop_lb h, List.set_append]; simp
theorem nx_succ {l : List Bool} {k : Nat} (h : k < l.length) : (nx l k).set k false = nx l (k + 1) := by
  rw [nx_set h]; unfold nx; rw [List.replicate_succ']; simp
theorem nextL_from {l : List Bool} {k : Nat} (hk : k ≤ l.length) (h : ∀ i, i < k → lb l i = true) : nextL l = List.replicate k false ++ nextL (l.drop k) := by
  induction k with
  | zero => rfl
  | succ k ih =>
    rw [ih (by omega) (fun i hi => h i (by omega)), drop_lb (by omega), h k (by omega), List.replicate_succ']
    simp [nextL]
theorem next_end {l : List Bool} (h : ∀ i, i < l.length → lb l i = true) : nextL l = nx l l.length := by
  rw [nextL_from (Nat.le_refl _) h]; unfold nx; rw [List.drop_length]; rfl
theorem next_stop {l : List Bool} {k : Nat} (hk : k < l.length) (h : ∀ i, i < k → lb l i = true) (h0 : lb l k = false) : nextL l = (nx l k).set k true := by
  rw [nextL_from (by omega) h, nx_set hk, drop_lb hk, h0]; rfl
theorem nextL_len (l : List Bool) : (nextL l).length = l.length := by
  induction l with
  | nil => rfl
  | cons b l ih => cases b <;> simp [nextL, ih]
theorem splice_all {α : Type} (a b : List α) (h : a.length = b.length) : splice a 0 b = b := by
  unfold splice; simp [h]

set_option maxHeartbeats 1000000 in
theorem bits_Next (A : Option Addr) (ca : Nat) (l : List Bool) (w : World) (h : RB w w.heap.size A l) (hl : l.length ≤ 1000000000000) :
    Calls Try.prog 14 #[.slice A l.length ca] w fun r w' => ∃ g, r = .returned (.slice (some ⟨g, 0, none⟩) l.length l.length) ∧ Blk w' g 4 (boolRow (nextL l)) ∧ w.heap.size ≤ g ∧ Below w.heap.size w w' := by
  have H := Lib.hid h
  have hmk := run_mk l.length hl
  clear h
  go_enter Try.func14, Try.ntmps14
  go_wp2_with (with_reducible refine wpList_copy_splice rfl (.tmp 8) (.tmp 9) 23 23 rfl 4 Try.underlying23 (by kernel_rfl) (some ⟨w.heap.size, 0, none⟩) A l.length l.length l.length ca rfl rfl w.heap.size 0 ((List.replicate l.length false).map Value.bool) 4 ?hg (l.map Value.bool) (by simp) ?hpos (by simp) ?h1 w.heap.size w ((Below.refl _ _).alloc (Nat.le_refl _) _) (Nat.le_refl _) ?_)
  case hg => exact Blk.new _ _ _
  case hpos =>
    intro hp
    obtain ⟨b, off, rfl, hb, hc⟩ := H.out (by simpa using hp)
    first | refine ⟨_, rfl, fun j v hj => ?_⟩ | refine ⟨rfl, _, rfl, fun j v hj => ?_⟩
    have key : ∃ x, l[j]? = some x ∧ v = .bool x := by
      rcases hj with ⟨h, rfl⟩ | ⟨h, rfl⟩
      · exact ⟨_, h, rfl⟩
      · exact ⟨_, h, rfl⟩
    obtain ⟨x, hx, rfl⟩ := key
    have hjl : j < l.length := (List.getElem?_eq_some_iff.1 hx).1
    have hv : x = lb l j := by unfold lb; simp [List.getD, hx]
    have ha : (⟨b, off, none⟩ : Addr).add j = ⟨b, off + j, none⟩ := by unfold Addr.add; split <;> simp_all
    rw [hv, ha, World.cell?_alloc_lt _ _ _ (by exact hb)]
    exact hc j hjl
  case h1 => intro v hv; simp at hv; rcases hv with h | h <;> (obtain ⟨_, rfl⟩ := h; rfl)
  intro w1 hsp hb1
  have hB1 : Blk w1 w.heap.size 4 (boolRow (nx l 0)) := by
    have := hsp.out
    rw [splice_all _ _ (by simp)] at this
    exact this
  have HB1 := Lib.hid hB1
  clear hsp hB1 hmk
  go_wp2
  go_loopw [13] (fun i wr => ∃ k : Nat, k ≤ l.length ∧ (∀ j, j < k → lb l j = true) ∧ i = .int .i64 k ∧ Blk wr w.heap.size 4 (boolRow (nx l k)) ∧ Below w.heap.size w wr) (fun i _ => l.length - (intOf i).toNat)
  case atStart => exact ⟨0, Nat.zero_le _, fun j hj => absurd hj (by omega), rfl, HB1.out, hb1⟩
  case round =>
    obtain ⟨k, hk, hall, rfl, hB, hb⟩ := hrel
    have HA := Lib.hid hall
    clear hall
    by_cases hlt : k < l.length
    · have hcell : wr.cell? ⟨w.heap.size, k, none⟩ = some (.bool (lb l k)) := by rw [hB.cell, boolRow_at (by rw [nx_len hk]; exact hlt), nx_lb hlt]
      have hfz := hB.frozen k
      have hlt2 : w.heap.size < wr.heap.size := hB.lt
      have hlt' : (k : Int) < (l.length : Int) := by omega
      cases hv : lb l k
      · have HB : Hid (Blk (wr.setCell ⟨w.heap.size, k, none⟩ (.bool true)) w.heap.size 4 (boolRow (nextL l))) := by
          have := hB.set_ k (.bool true); rw [boolRow_set, ← next_stop hlt HA.out hv] at this; exact this
        rw [hv] at hcell
        clear hB
        go_wp2
        go_ret
        exact ⟨_, rfl, HB.out, Nat.le_refl _, hb.setCell (p := ⟨w.heap.size, k, none⟩) (Nat.le_refl _) _⟩
      · have HB : Hid (Blk (wr.setCell ⟨w.heap.size, k, none⟩ (.bool false)) w.heap.size 4 (boolRow (nx l (k + 1)))) := by
          have := hB.set_ k (.bool false); rw [boolRow_set, nx_succ hlt] at this; exact this
        have HA2 : Hid (∀ j, j < k + 1 → lb l j = true) := fun j hj => by
          by_cases e : j = k
          · rw [e]; exact hv
          · exact HA.out j (by omega)
        rw [hv] at hcell
        clear hB
        go_wp2
        go_roundw
        case rel => exact ⟨k + 1, by omega, HA2.out, by go_num, HB.out, hb.setCell (p := ⟨w.heap.size, k, none⟩) (Nat.le_refl _) _⟩
        case measure => simp [intOf]; omega
    · obtain rfl : k = l.length := by omega
      have HB : Hid (Blk wr w.heap.size 4 (boolRow (nextL l))) := by show Blk _ _ _ _; rw [next_end HA.out]; exact hB
      clear hB
      go_wp2
      go_ret
      exact ⟨_, rfl, HB.out, Nat.le_refl _, hb⟩
end Go.Proofs.Yteoijhmaklocpaa
