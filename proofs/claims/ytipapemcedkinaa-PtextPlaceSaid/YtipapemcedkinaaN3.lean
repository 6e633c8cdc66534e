/- The contract of Text of layer 1 (num), over the translation. -/
import Derived.Test.YtipapemcedkinaaN2
import Derived.Laws.BytesArg
namespace Go.Proofs.Ytipapemcedkinaa
open Go.RowKit


theorem run_tail (g f : Nat) (hf : f ≤ 19) (w : World) :
    (Instr.sliceAt 80 (.pointer (some ⟨g, 0, none⟩)) (some (.int .i64 (f : Int))) none none).run Try.prog w = .ok (.slice (some ⟨g, f, none⟩) (20 - f) (20 - f)) w := by
  have ht : Try.prog.underlying 80 = some (.array (Try.prog.arrayLen 80) (Try.prog.elem 80)) := by kernel_rfl
  have hl : Try.prog.arrayLen 80 = 20 := by kernel_rfl
  have he : Try.prog.elem 80 = 5 := by kernel_rfl
  rw [run_sliceAt_array_l w 80 _ ht .i64 f (by omega) (by rw [hl]; omega), he, hl, Try.sizeOf5]
  simp only [Result.andThen_ok, slicedAt, Int.toNat_natCast, Nat.mul_one]
  rw [if_neg (by omega)]
  have : (⟨g, 0, none⟩ : Addr).add f = ⟨g, f, none⟩ := by unfold Addr.add; split <;> simp_all
  rw [this]
theorem run_str (w : World) (g f : Nat) (ds : List Int) (h : f + ds.length = 20) (hB : Blk w g 80 (cells20 f ds)) :
    (convert 51 9 (.slice (some ⟨g, f, none⟩) (20 - f) (20 - f))).run Try.prog w = .ok (.string (strOfNums ds)) w :=
  run_convert_bytes_arg w 51 5 Try.underlying51 Try.underlying5 g f (20 - f) (20 - f) ds (by omega) (fun i hi => by rw [hB.cell, cells20_get _ _ _ (by omega)]) 9 Try.underlying9

set_option maxHeartbeats 1000000 in
theorem num_Text (n : Int) (w : World) (n1 : -9223372036854775808 ≤ n) (n2 : n ≤ 9223372036854775807) :
    Calls Try.prog 35 #[.int .i64 n] w fun r w' => r = .returned (.string (strOfNums (textF n))) ∧ Below w.heap.size w w' := by
  have ea : absF n = ((n.natAbs : Nat) : Int) := by unfold absF; split <;> omega
  obtain ⟨N, hN⟩ : ∃ N, n.natAbs = N := ⟨_, rfl⟩
  have hN2 : N < 10 ^ 19 := by omega
  rw [hN] at ea
  have HN2 := Lib.hid hN2
  have HN := Lib.hid hN
  clear hN2
  have hN3 : N ≤ 9223372036854775808 := by omega
  clear hN
  go_enter Try.func35, Try.ntmps35
  go_wp2_with (first
        | (go_at_call 45; refine (num_size _ _ (by omega) (by omega)).mono ?_; rintro e w' ⟨rfl, rfl⟩))
  go_loopw [4, 5] (fun a b wr => ∃ (f r : Nat) (ds : List Int), f + ds.length = 20 ∧ a = .int .i64 (f : Int) ∧ b = .int .u64 (r : Int) ∧ r ≤ N ∧ DInv N r ds ∧ Blk wr w.heap.size 80 (cells20 f ds) ∧ Below w.heap.size w wr) (fun a _ _ => (intOf a).toNat)
  case atStart =>
    refine ⟨20, N, [], by simp, by simp, by simp, Nat.le_refl _, DInv.start N, Blk.new _ _ _, (Below.refl _ _).alloc (Nat.le_refl _) _⟩
  case round =>
    obtain ⟨f, r, ds, hf, rfl, rfl, hrN, hI, hB, hb⟩ := hrel
    by_cases hc : 0 < r ∨ ds = []
    · obtain ⟨f, rfl⟩ : ∃ k, f = k + 1 := ⟨f - 1, by
        rcases hc with hc | hc
        · have := hI.len HN2.out hc; omega
        · subst hc; simp at hf; omega⟩
      have hcell : wr.cell? ⟨w.heap.size, f, none⟩ = some (.int .u8 0) := by rw [hB.cell, cells20_at]
      have hfz := hB.frozen f
      have HI := Lib.hid (hI.step hc)
      have HB : Hid (Blk (wr.setCell ⟨w.heap.size, f, none⟩ (.int .u8 (48 + ((r % 10 : Nat) : Int)))) w.heap.size 80 (cells20 f ((48 + ((r % 10 : Nat) : Int)) :: ds))) := by
        have := hB.set_ f (.int .u8 (48 + ((r % 10 : Nat) : Int))); rw [cells20_set] at this; exact this
      have hf2 : f ≤ 19 := by omega
      have e1 : (((f + 1 : Nat) : Int)) = (f : Int) + 1 := by omega
      rw [e1]
      have hlt : w.heap.size < wr.heap.size := hB.lt
      have HF := Lib.hid hf
      have hq : 0 < r ∨ ((f : Int) + 1 == 20) = true := by
        rcases hc with hc | hc
        · exact .inl hc
        · subst hc; simp at hf; refine .inr ?_; simp; omega
      clear hI hB hf hc
      rcases hq with hq | hq
      · go_wp2
        go_roundw
        case rel => exact ⟨f, r / 10, _, by have := HF.out; simp at this ⊢; omega, rfl, by go_num, by omega, HI.out, HB.out, hb.setCell (p := ⟨w.heap.size, f, none⟩) (Nat.le_refl _) _⟩
        case measure => simp [intOf]
      · by_cases hr : 0 < r
        · go_wp2
          go_roundw
          case rel => exact ⟨f, r / 10, _, by have := HF.out; simp at this ⊢; omega, rfl, by go_num, by omega, HI.out, HB.out, hb.setCell (p := ⟨w.heap.size, f, none⟩) (Nat.le_refl _) _⟩
          case measure => simp [intOf]
        · have hr0 : ¬ 0 < (r : Int) := by omega
          go_wp2
          go_roundw
          case rel => exact ⟨f, r / 10, _, by have := HF.out; simp at this ⊢; omega, rfl, by go_num, by omega, HI.out, HB.out, hb.setCell (p := ⟨w.heap.size, f, none⟩) (Nat.le_refl _) _⟩
          case measure => simp [intOf]
    · have hr : r = 0 := by omega
      subst hr
      have hds : ds ≠ [] := by intro h; exact hc (.inr h)
      have he := hI.done hds
      have hf19 : f ≤ 19 := by
        rcases ds with _ | ⟨d, ds⟩
        · exact absurd rfl hds
        · simp at hf; omega
      have hlt : w.heap.size < wr.heap.size := hB.lt
      have hf20 : ((f : Int) == 20) = false := by simp; omega
      by_cases hn : n < 0
      · have ht : textF n = 45 :: ds := by unfold textF; rw [if_pos hn, HN.out, he]
        have HT := Lib.hid ht
        obtain ⟨f, rfl⟩ : ∃ k, f = k + 1 := ⟨f - 1, by
          have := digs_len N 19 (by omega) HN2.out
          rw [← he] at this
          omega⟩
        have hcell : wr.cell? ⟨w.heap.size, f, none⟩ = some (.int .u8 0) := by rw [hB.cell, cells20_at]
        have hfz := hB.frozen f
        have hB2 : Blk (wr.setCell ⟨w.heap.size, f, none⟩ (.int .u8 45)) w.heap.size 80 (cells20 f (45 :: ds)) := by
          have := hB.set_ f (.int .u8 45); rw [cells20_set] at this; exact this
        have hsl := run_tail w.heap.size f (by omega)
        have hst := run_str _ _ _ _ (by simp; omega) hB2
        have e1 : (((f + 1 : Nat) : Int)) = (f : Int) + 1 := by omega
        rw [e1] at hf20 ⊢
        have HB := Lib.hid hB
        clear ht he hI hB hB2 hf hds hc e1
        go_wp2
        go_ret
        exact ⟨by rw [HT.out]; rfl, hb.setCell (p := ⟨w.heap.size, f, none⟩) (Nat.le_refl _) _⟩
      · have ht : textF n = ds := by unfold textF; rw [if_neg hn, HN.out, he]
        have HT := Lib.hid ht
        have hsl := run_tail w.heap.size f (by omega)
        have hst := run_str _ _ _ _ (by omega) hB
        clear ht he hI hB hf hds hc
        go_wp2
        go_ret
        exact ⟨by rw [HT.out]; rfl, hb⟩
end Go.Proofs.Ytipapemcedkinaa
