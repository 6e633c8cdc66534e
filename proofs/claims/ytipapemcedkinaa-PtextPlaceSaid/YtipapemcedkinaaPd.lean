/- The specification's parser of layer 7 (ptext): signs, named. -/
import Derived.Test.YtipapemcedkinaaPc
namespace Go.Proofs.Ytipapemcedkinaa
open Go.RowKit Go.PlainAid

theorem size47 : (Try.prog.info? 47).map (·.size) = some 5 := by kernel_rfl
theorem res_got {fn : Func} {p : Tmp} (h : fn.results = #[.cell p 47]) (tmps : Array Value) (w : World) (g : Nat) (a b c d e : Value) (hp : tmps.getD p undef = .pointer (some ⟨g, 0, none⟩)) (hg : Blk w g 47 #[a, b, c, d, e]) :
    (results fn tmps).run Try.prog w = .ok (.agg #[a, b, c, d, e]) w := by
  exact results_cell_row (P := Try.prog) h tmps w g 47 #[a, b, c, d, e] (0, 0) _ hp hg Try.underlying47 rfl size47
theorem put5 {w : World} {g : Nat} {a0 a1 a2 a3 a4 b0 b1 b2 b3 b4 : Value} (h : Blk w g 47 #[a0, a1, a2, a3, a4]) : Blk (((((w.setCell ⟨g, 0, none⟩ b0).setCell ⟨g, 1, none⟩ b1).setCell ⟨g, 2, none⟩ b2).setCell ⟨g, 3, none⟩ b3).setCell ⟨g, 4, none⟩ b4) g 47 #[b0, b1, b2, b3, b4] :=
  ((((h.set_ 0 _).set_ 1 _).set_ 2 _).set_ 3 _).set_ 4 _
theorem below5 {B : Nat} {w w1 : World} (h : Below B w w1) {g : Nat} (hg : B ≤ g) (b0 b1 b2 b3 b4 : Value) : Below B w (((((w1.setCell ⟨g, 0, none⟩ b0).setCell ⟨g, 1, none⟩ b1).setCell ⟨g, 2, none⟩ b2).setCell ⟨g, 3, none⟩ b3).setCell ⟨g, 4, none⟩ b4) :=
  ((((h.setCell (p := ⟨g, 0, none⟩) hg _).setCell (p := ⟨g, 1, none⟩) hg _).setCell (p := ⟨g, 2, none⟩) hg _).setCell (p := ⟨g, 3, none⟩) hg _).setCell (p := ⟨g, 4, none⟩) hg _
abbrev gotZ : Array Value := #[.int .i64 0, .int .i64 0, .slice none 0 0, .int .i64 0, .bool false]
theorem got_cells {w : World} {g : Nat} {a b c d e : Value} (h : Blk w g 47 #[a, b, c, d, e]) : g < w.heap.size ∧ (w.cell? ⟨g, 0, none⟩ = some a ∧ w.cell? ⟨g, 1, none⟩ = some b ∧ w.cell? ⟨g, 2, none⟩ = some c ∧ w.cell? ⟨g, 3, none⟩ = some d ∧ w.cell? ⟨g, 4, none⟩ = some e) ∧ w.frozen? ⟨g, 0, none⟩ = false ∧ w.frozen? ⟨g, 1, none⟩ = false ∧ w.frozen? ⟨g, 2, none⟩ = false ∧ w.frozen? ⟨g, 3, none⟩ = false ∧ w.frozen? ⟨g, 4, none⟩ = false :=
  ⟨h.lt, ⟨h.cell 0, h.cell 1, h.cell 2, h.cell 3, h.cell 4⟩, h.frozen 0, h.frozen 1, h.frozen 2, h.frozen 3, h.frozen 4⟩
theorem r_signs (w : World) : Calls Try.prog 32 #[] w fun e w' => e = .returned (.string ⟨#[33, 38, 124, 94, 62, 61, 63]⟩) ∧ w' = w := by
  go_enter Try.func32, Try.ntmps32
  go_wp2
  go_ret
  exact ⟨rfl, rfl⟩
/-- How the specification's loop over the digits stands. -/
def NT (s : ByteArray) (k n j : Nat) : Prop := n = nlen s k ∧ j ≤ 4 ∧ (Go.PlainAid.bt s k = 48 → j = 0 ∨ j = 1) ∧ (Go.PlainAid.bt s k ≠ 48 → n = j + nrun s (k + j) (4 - j))
theorem NT.zero (s : ByteArray) (k : Nat) : NT s k (nlen s k) 0 := ⟨rfl, by omega, fun _ => .inl rfl, fun h => by unfold nlen; rw [if_neg h]; simp⟩
theorem NT.stop {s : ByteArray} {k n j : Nat} (h : NT s k n j) (hc : ¬ (dig s (k + j) ∧ j < 4 ∧ (j = 0 ∨ Go.PlainAid.bt s k ≠ 48))) : n = j := by
  obtain ⟨h1, h2, h3, h4⟩ := h
  by_cases h0 : Go.PlainAid.bt s k = 48
  · have hn : n = 1 := by rw [h1]; unfold nlen; rw [if_pos h0]
    rcases h3 h0 with rfl | rfl
    · exact absurd ⟨by show 48 ≤ Go.PlainAid.bt s (k + 0) ∧ Go.PlainAid.bt s (k + 0) ≤ 57; rw [Nat.add_zero]; omega, by omega, .inl rfl⟩ hc
    · exact hn
  · have h5 := h4 h0
    rcases Nat.lt_or_ge j 4 with hj | hj
    · obtain ⟨r, hr⟩ : ∃ r, 4 - j = r + 1 := ⟨3 - j, by omega⟩
      rw [hr, nrun, if_neg (fun hd => hc ⟨hd, hj, .inr h0⟩)] at h5
      exact h5
    · rw [show 4 - j = 0 by omega, nrun] at h5
      exact h5
theorem NT.go {s : ByteArray} {k n j : Nat} (h : NT s k n j) (hd : dig s (k + j)) (hj : j < 4) (h0 : j = 0 ∨ Go.PlainAid.bt s k ≠ 48) : NT s k n (j + 1) := by
  obtain ⟨h1, h2, h3, h4⟩ := h
  refine ⟨h1, by omega, fun e => ?_, fun e => ?_⟩
  · rcases h0 with rfl | h0
    · exact .inr rfl
    · exact absurd e h0
  · have h5 := h4 e
    obtain ⟨r, hr⟩ : ∃ r, 4 - j = r + 1 := ⟨3 - j, by omega⟩
    rw [hr, nrun, if_pos hd] at h5
    rw [show 4 - (j + 1) = r by omega, show k + (j + 1) = k + j + 1 by omega]
    omega
theorem NT.dig {s : ByteArray} {k n j : Nat} (h : NT s k n j) : j ≤ n := by
  obtain ⟨h1, h2, h3, h4⟩ := h
  by_cases h0 : Go.PlainAid.bt s k = 48
  · have hn : n = 1 := by rw [h1]; unfold nlen; rw [if_pos h0]
    have := h3 h0
    omega
  · have := h4 h0; omega
theorem nval_le {s : ByteArray} {k n j : Nat} (h : NT s k n j) : 0 ≤ nval s k j ∧ nval s k j ≤ 9999 := by
  have hd : ∀ i, i < j → dig s (k + i) := fun i hi => nlen_dig s k i (by have := h.dig; have := h.1; omega)
  refine ⟨nval_nonneg j hd, ?_⟩
  have h1 := nval_lt j hd
  have h2 := h.2.1
  have : j = 0 ∨ j = 1 ∨ j = 2 ∨ j = 3 ∨ j = 4 := by omega
  rcases this with rfl | rfl | rfl | rfl | rfl <;> omega
set_option maxRecDepth 100000 in
set_option maxHeartbeats 4000000 in
theorem r_named (s : ByteArray) (k : Nat) (w : World) (hk : k ≤ s.size) (hs : s.size ≤ 65536) :
    Calls Try.prog 31 #[.string s, .int .i64 (k : Int)] w fun e w' => e = .returned (.agg #[.int .i64 3, .int .i64 (nval s k (nlen s k)), .slice none 0 0, .int .i64 ((k + nlen s k : Nat) : Int), .bool (decide (0 < nlen s k))]) ∧ Below w.heap.size w w' := by
  have hb := get_bt s
  obtain ⟨n, hn⟩ : ∃ n, nlen s k = n := ⟨_, rfl⟩
  have HT0 : Hid (NT s k n 0) := Lib.hid (by rw [← hn]; exact NT.zero s k)
  rw [hn]
  obtain ⟨W0, hW0⟩ : ∃ W, w.alloc (.cells gotZ 47) = W := ⟨_, rfl⟩
  have HBX : Hid (Blk W0 w.heap.size 47 gotZ) := Lib.hid (by rw [← hW0]; exact Blk.new w 47 _)
  have HBW : Hid (Below w.heap.size w W0) := Lib.hid (by rw [← hW0]; exact balw _ _)
  obtain ⟨z0, ⟨x0, x1, x2, x3, x4⟩, q0, q1, q2, q3, q4⟩ := got_cells HBX.out
  clear hn
  go_enter Try.func31, Try.ntmps31
  go_wp2
  try rw [hW0]
  clear hW0
  go_loopw [1, 5] (fun r1 r5 wr => ∃ (j kj : Nat), kj = k + j ∧ kj ≤ s.size ∧ r1 = .int .i64 (kj : Int) ∧ r5 = .int .i64 (nval s k j) ∧ Hid (NT s k n j) ∧ wr = W0) (fun r1 _ _ => k + 5 - (intOf r1).toNat)
  case atStart => exact ⟨0, k, rfl, hk, rfl, rfl, HT0, rfl⟩
  case round =>
    obtain ⟨j, kj, ekj, hkj, rfl, rfl, HV, rfl⟩ := hrel
    have EK := Lib.hid ekj
    have hj4 := HV.out.2.1
    obtain ⟨v0, v9⟩ := nval_le HV.out
    have HN1 : Hid (nval s k (j + 1) = 10 * nval s k j + (Go.PlainAid.bt s kj - 48)) := Lib.hid (by rw [ekj]; show nval s k j * 10 + _ = _; omega)
    have HEND : Hid (n = j → Ending.returned (.agg #[.int .i64 3, .int .i64 (nval s k n), .slice none 0 0, .int .i64 ((k + n : Nat) : Int), .bool (decide (0 < n))]) = .returned (.agg #[.int .i64 3, .int .i64 (nval s k j), .slice none 0 0, .int .i64 (kj : Int), .bool (decide (k < kj))])) := Lib.hid (fun h => by
      rw [h, ekj, show decide (0 < j) = decide (k < k + j) from decide_eq_decide.2 (by omega)])
    have HSTOP : Hid (¬ (dig s kj ∧ j < 4 ∧ (j = 0 ∨ Go.PlainAid.bt s k ≠ 48)) → n = j) := Lib.hid (fun h => HV.out.stop (by rw [← ekj]; exact h))
    have HGO : Hid (dig s kj → j < 4 → (j = 0 ∨ Go.PlainAid.bt s k ≠ 48) → NT s k n (j + 1)) := Lib.hid (fun h => by rw [ekj] at h; exact HV.out.go h)
    generalize nval s k j = x at *
    clear HT0 HV
    by_cases c1 : kj < s.size
    · have g1 : (kj : Int) < (s.size : Int) := by omega
      by_cases c2 : 48 ≤ Go.PlainAid.bt s kj
      · by_cases c3 : Go.PlainAid.bt s kj ≤ 57
        · by_cases c4 : j < 4
          · have g4 : (kj : Int) < (k : Int) + 4 := by omega
            have hu : IntKind.u8.wrap (Go.PlainAid.bt s kj - 48) = Go.PlainAid.bt s kj - 48 := IntWalk.u8_in _ (by omega)
            by_cases c5 : j = 0
            · have g5 : ((kj : Int) == (k : Int)) = true := by simp; omega
              have HT1 := Lib.hid (HGO.out ⟨c2, c3⟩ c4 (.inl c5))
              clear HGO HSTOP HEND ekj c5
              go_wp2
              go_roundw
              case rel => exact ⟨j + 1, kj + 1, by rw [EK.out]; omega, by omega, by go_num, by rw [HN1.out], HT1, by trivial⟩
              case measure => have := EK.out; simp [intOf]; omega
            · have g5 : ((kj : Int) == (k : Int)) = false := by simp; omega
              have hk0 : k < s.size := by omega
              by_cases c6 : Go.PlainAid.bt s k = 48
              · have g6 : (Go.PlainAid.bt s k != 48) = false := by simp [c6]
                have HE := Lib.hid (HEND.out (HSTOP.out (fun h => by rcases h.2.2 with h | h; exact c5 h; exact h c6)))
                clear HGO HSTOP HEND ekj c5 c6
                go_wp2
                refine bodyPost_ret (res_got rfl _ _ w.heap.size _ _ _ _ _ rfl (put5 HBX.out)) rfl ?_
                exact ⟨HE.out.symm, below5 HBW.out (Nat.le_refl _) _ _ _ _ _⟩
              · have g6 : (Go.PlainAid.bt s k != 48) = true := by simp [c6]
                have HT1 := Lib.hid (HGO.out ⟨c2, c3⟩ c4 (.inr c6))
                clear HGO HSTOP HEND ekj c5 c6
                go_wp2
                go_roundw
                case rel => exact ⟨j + 1, kj + 1, by rw [EK.out]; omega, by omega, by go_num, by rw [HN1.out], HT1, by trivial⟩
                case measure => have := EK.out; simp [intOf]; omega
          · have g4 : ¬ (kj : Int) < (k : Int) + 4 := by omega
            have HE := Lib.hid (HEND.out (HSTOP.out (fun h => c4 h.2.1)))
            clear HGO HSTOP HEND ekj
            go_wp2
            refine bodyPost_ret (res_got rfl _ _ w.heap.size _ _ _ _ _ rfl (put5 HBX.out)) rfl ?_
            exact ⟨HE.out.symm, below5 HBW.out (Nat.le_refl _) _ _ _ _ _⟩
        · have HE := Lib.hid (HEND.out (HSTOP.out (fun h => c3 h.1.2)))
          clear HGO HSTOP HEND ekj
          go_wp2
          refine bodyPost_ret (res_got rfl _ _ w.heap.size _ _ _ _ _ rfl (put5 HBX.out)) rfl ?_
          exact ⟨HE.out.symm, below5 HBW.out (Nat.le_refl _) _ _ _ _ _⟩
      · have HE := Lib.hid (HEND.out (HSTOP.out (fun h => c2 h.1.1)))
        clear HGO HSTOP HEND ekj
        go_wp2
        refine bodyPost_ret (res_got rfl _ _ w.heap.size _ _ _ _ _ rfl (put5 HBX.out)) rfl ?_
        exact ⟨HE.out.symm, below5 HBW.out (Nat.le_refl _) _ _ _ _ _⟩
    · have g1 : ¬ (kj : Int) < (s.size : Int) := by omega
      have HE := Lib.hid (HEND.out (HSTOP.out (fun h => c1 (dig_lt h.1))))
      clear HGO HSTOP HEND ekj
      go_wp2
      refine bodyPost_ret (res_got rfl _ _ w.heap.size _ _ _ _ _ rfl (put5 HBX.out)) rfl ?_
      exact ⟨HE.out.symm, below5 HBW.out (Nat.le_refl _) _ _ _ _ _⟩
end Go.Proofs.Ytipapemcedkinaa
