/- The contract of reach, of layer 30 (terms). -/
import Derived.Test.YtcdpjodnbegepaaFn9
import Derived.Test.YtcdpjodnbegepaaFn7
namespace Go.Proofs.Ytcdpjodnbegepaa
open Go.RowKit

theorem Own.nil (w : World) (B : Nat) : Own w B (.slice none 0 0) [] := ⟨rfl, .inl ⟨rfl, rfl⟩⟩
theorem index_two (x y : Int) (k : Nat) (hk : k < 2) (w : World) : (Instr.index 104 (.agg #[.int .i64 x, .int .i64 y]) (.int .i64 (k : Int))).run Try.prog w = .ok (.int .i64 (if k = 0 then x else y)) w := by
  rcases k with _ | _ | k
  · kernel_rfl
  · kernel_rfl
  · omega
def cn (o : Int) (a b : Ty) (i j : Nat) : Int := (compS o (if i = 0 then a.lo else a.hi) (if j = 0 then b.lo else b.hi)).1
def corners (o : Int) (a b : Ty) : List Int := [cn o a b 0 0, cn o a b 0 1, cn o a b 1 0, cn o a b 1 1]
def reachS (o : Int) (a b : Ty) : Ty × Int := spanS (mnN (corners o a b) 3) (mxN (corners o a b) 3)
def TyIn (y : Ty) : Prop := I64 y.lo ∧ I64 y.hi
set_option maxRecDepth 100000 in
set_option maxHeartbeats 8000000 in
theorem pr_reach (o : Int) (a b : Ty) (w : World) (ha : TyIn a) (hb : TyIn b) : Calls Try.prog 66 #[.int .i64 o, tyV a, tyV b] w (TyE (reachS o a b) w) := by
  obtain ⟨i0, hi0, hz0, hz1, hz2⟩ := info_parts info3
  obtain ⟨ab, al', ah⟩ := a
  obtain ⟨bb, bl, bh⟩ := b
  obtain ⟨ha1, ha2⟩ := ha
  obtain ⟨hb1, hb2⟩ := hb
  have HC : Hid (∀ i j : Nat, ∀ w, Calls Try.prog 73 #[.int .i64 o, .int .i64 (if i = 0 then al' else ah), .int .i64 (if j = 0 then bl else bh)] w fun r w' => (∃ y, r = .returned (.tuple #[.int .i64 (cn o ⟨ab, al', ah⟩ ⟨bb, bl, bh⟩ i j), .bool y])) ∧ w = w') := Lib.hid (fun i j w => by
    refine (pr_compute o _ _ w ?_ ?_).mono fun e w' h => ⟨⟨_, h.1⟩, h.2⟩
    · split <;> assumption
    · split <;> assumption)
  obtain ⟨R, hR⟩ : ∃ R, reachS o ⟨ab, al', ah⟩ ⟨bb, bl, bh⟩ = R := ⟨_, rfl⟩
  have HR : Hid (spanS (mnN (corners o ⟨ab, al', ah⟩ ⟨bb, bl, bh⟩) 3) (mxN (corners o ⟨ab, al', ah⟩ ⟨bb, bl, bh⟩) 3) = R) := Lib.hid hR
  rw [hR]
  clear hR ha1 ha2 hb1 hb2
  have HT : Hid (∀ k j : Nat, k < 2 → j < 2 → (corners o ⟨ab, al', ah⟩ ⟨bb, bl, bh⟩).take (2 * k + j + 1) = (corners o ⟨ab, al', ah⟩ ⟨bb, bl, bh⟩).take (2 * k + j) ++ [cn o ⟨ab, al', ah⟩ ⟨bb, bl, bh⟩ k j]) := Lib.hid (fun k j hk hj => by
    rcases (by omega : k = 0 ∨ k = 1) with rfl | rfl <;> rcases (by omega : j = 0 ∨ j = 1) with rfl | rfl <;> rfl)
  have HL : Hid ((corners o ⟨ab, al', ah⟩ ⟨bb, bl, bh⟩).take 4 = corners o ⟨ab, al', ah⟩ ⟨bb, bl, bh⟩ ∧ (corners o ⟨ab, al', ah⟩ ⟨bb, bl, bh⟩).length = 4) := Lib.hid ⟨rfl, rfl⟩
  generalize corners o ⟨ab, al', ah⟩ ⟨bb, bl, bh⟩ = C at *
  generalize cn o ⟨ab, al', ah⟩ ⟨bb, bl, bh⟩ = X at *
  have HW : Hid (∃ W, ((w.alloc (.cells #[.bool ab, .int .i64 al', .int .i64 ah] 39)).alloc (.cells #[.bool bb, .int .i64 bl, .int .i64 bh] 39)).alloc (.cells #[.bool false, .int .i64 0, .int .i64 0] 39) = W) := Lib.hid ⟨_, rfl⟩
  obtain ⟨W, hW⟩ := HW.out
  have HX : Hid (∀ wr, Below (w.heap.size + 3) W wr → Blk wr (w.heap.size + 1) 39 #[.bool bb, .int .i64 bl, .int .i64 bh] ∧ Blk wr (w.heap.size + 2) 39 #[.bool false, .int .i64 0, .int .i64 0] ∧ Below w.heap.size w wr ∧ w.heap.size + 3 ≤ wr.heap.size) := Lib.hid (fun wr h => by
    have z1 : (w.alloc (.cells #[.bool ab, .int .i64 al', .int .i64 ah] 39)).heap.size = w.heap.size + 1 := by simp
    have z2 : ((w.alloc (.cells #[.bool ab, .int .i64 al', .int .i64 ah] 39)).alloc (.cells #[.bool bb, .int .i64 bl, .int .i64 bh] 39)).heap.size = w.heap.size + 2 := by simp
    have b1 := Blk.new (w.alloc (.cells #[.bool ab, .int .i64 al', .int .i64 ah] 39)) 39 #[.bool bb, .int .i64 bl, .int .i64 bh]
    rw [z1] at b1
    have b2 := Blk.new ((w.alloc (.cells #[.bool ab, .int .i64 al', .int .i64 ah] 39)).alloc (.cells #[.bool bb, .int .i64 bl, .int .i64 bh] 39)) 39 #[.bool false, .int .i64 0, .int .i64 0]
    rw [z2] at b2
    have z3 : W.heap.size = w.heap.size + 3 := by rw [← hW]; simp
    have b1' := b1.alloc (.cells #[.bool false, .int .i64 0, .int .i64 0] 39)
    rw [hW] at b1' b2
    have hs := h.size
    have h0 : Below w.heap.size w W := by rw [← hW]; exact Go.Proofs.Ytcdpjodnbegepaa.al (Go.Proofs.Ytcdpjodnbegepaa.al (Go.Proofs.Ytcdpjodnbegepaa.al (Below.refl _ _) _) _) _
    exact ⟨b1'.below h (by omega), b2.below h (by omega), h0.trans (h.mono (by omega)), by omega⟩)
  have HWW := Lib.hid hW
  clear hW HW
  go_enter Try.func66, Try.ntmps66
  go_wp2
  go_loopw [8, 20] (fun out i wr => ∃ k : Nat, k ≤ 2 ∧ i = .int .i64 (k : Int) ∧ Hid (Own wr (w.heap.size + 3) out (C.take (2 * k))) ∧ Below (w.heap.size + 3) W wr) (fun _ i _ => 2 - (intOf i).toNat)
  case atStart => exact ⟨0, Nat.zero_le _, rfl, Lib.hid (Own.nil _ _), by rw [HWW.out]; exact Below.refl _ _⟩
  case round =>
    obtain ⟨k, hk, rfl, HO, hb⟩ := hrel
    obtain ⟨B1, B2, hbw, hsz⟩ := HX.out _ hb
    have HBW := Lib.hid hbw
    have q0 : wr.cell? ⟨w.heap.size + 1, 0, none⟩ = some (.bool bb) := B1.cell 0
    have q1 : wr.cell? ⟨w.heap.size + 1, 1, none⟩ = some (.int .i64 bl) := B1.cell 1
    have q2 : wr.cell? ⟨w.heap.size + 1, 2, none⟩ = some (.int .i64 bh) := B1.cell 2
    have HB2 := Lib.hid B2
    clear B1 B2 hbw
    by_cases hlt : k < 2
    · have l1 : (k : Int) < 2 := by omega
      have hix := index_two al' ah k hlt wr
      have HHb := Lib.hid hb
      obtain ⟨x, hx⟩ : ∃ x, (if k = 0 then al' else ah) = x := ⟨_, rfl⟩
      rw [hx] at hix
      have HCx := Lib.hid (fun j w => by have := HC.out k j w; rw [hx] at this; exact this)
      clear hx hb
      go_wp2
      go_loopw [8, 28] (fun out i wr2 => ∃ j : Nat, j ≤ 2 ∧ i = .int .i64 (j : Int) ∧ Hid (Own wr2 (w.heap.size + 3) out (C.take (2 * k + j))) ∧ Below (w.heap.size + 3) W wr2) (fun _ i _ => 2 - (intOf i).toNat)
      case atStart => exact ⟨0, Nat.zero_le _, rfl, HO, HHb.out⟩
      case round =>
        obtain ⟨j, hj, rfl, HO2, hb2⟩ := hrel
        by_cases hl2 : j < 2
        · have l2 : (j : Int) < 2 := by omega
          have hiy := index_two bl bh j hl2 wr
          have HHb2 := Lib.hid hb2
          have hsz2 := (HX.out _ hb2).2.2.2
          have HCy := Lib.hid (HCx.out j)
          obtain ⟨y, hy⟩ : ∃ y, (if j = 0 then bl else bh) = y := ⟨_, rfl⟩
          rw [hy] at hiy HCy
          have HT2 := Lib.hid (HT.out k j hlt hl2)
          have HLL : Hid ((C.take (2 * k + j)).length ≤ 4) := Lib.hid (by rw [List.length_take]; omega)
          clear hy hb2
          generalize X k j = xv at *
          generalize C.take (2 * k + j) = L at *
          obtain ⟨A0, c0, e0, _⟩ := HO2.out.form
          subst e0
          go_wp2_with (first
            | (go_at_call 73; (with_reducible refine (HCy.out _).mono ?_); rintro e w1 ⟨⟨yb, rfl⟩, rfl⟩)
            | (at_builtin; refine wpList_append_own _ rfl _ _ 45 rfl (w.heap.size + 3) 3 i0 _ 1 8 Try.underlying45 hi0 hz0 hz1 hz2 rfl (by decide) _ _ _ rfl (HO2.out.alloc1 _) ⟨_, 0, none⟩ 1 1 [.int .i64 xv] rfl rfl (by have h := cell_one_new wr (.int .i64 xv) 3; simpa using h) (by simp [Value.oneCell']) (by have := HLL.out; unfold maxLen; omega) (by have := HLL.out; omega) (by simp; omega) ?_; intro v2 w1 hown hg1 hn1; have HO3 : Hid (Own w1 (w.heap.size + 3) v2 (L ++ [xv])) := Lib.hid (Own.push hown); have HB3 := Lib.hid ((HHb2.out.alloc (by omega) (.cells #[.int .i64 xv] 3)).grown hg1 (by simp; omega) (fun k e => HO2.out.block k e)); clear hown hg1 hn1))
          go_roundw
          case rel => exact ⟨j + 1, by omega, by go_num, by rw [← Nat.add_assoc, HT2.out]; exact HO3, HB3.out⟩
          case measure => simp [intOf]; try omega
        · have l2 : ¬ (j : Int) < 2 := by omega
          obtain rfl : j = 2 := by omega
          go_wp2
          go_roundw
          case rel => exact ⟨k + 1, by omega, by go_num, by rw [Nat.mul_succ]; exact HO2, hb2⟩
          case measure => simp [intOf]; try omega
    · have l1 : ¬ (k : Int) < 2 := by omega
      obtain rfl : k = 2 := by omega
      have HO4 : Hid (Own wr (w.heap.size + 3) u8 C) := Lib.hid (by have := HO.out; rw [show 2 * 2 = 4 from rfl, HL.out.1] at this; exact this)
      obtain ⟨A0, c0, e0, hri, _⟩ := HO4.out.form
      subst e0
      have hcl := HL.out.2
      have HM : Hid (Calls Try.prog 84 #[.slice A0 4 c0] wr fun e w' => e = .returned (.int .i64 (mnN C 3)) ∧ wr = w') := Lib.hid (by have := pr_Min C A0 c0 wr hri (by omega) (by omega); rw [hcl] at this; exact this)
      have HM2 : Hid (Calls Try.prog 85 #[.slice A0 4 c0] wr fun e w' => e = .returned (.int .i64 (mxN C 3)) ∧ wr = w') := Lib.hid (by have := pr_Max C A0 c0 wr hri (by omega) (by omega); rw [hcl] at this; exact this)
      have HHb := Lib.hid hb
      clear hri hb
      have HS := Lib.hid (fun w => pr_span (mnN C 3) (mxN C 3) w)
      rw [HR.out] at HS
      obtain ⟨⟨yb, yl, yh⟩, ye⟩ := R
      generalize mnN C 3 = m0 at *
      generalize mxN C 3 = m1 at *
      rw [hcl]
      clear hcl
      go_wp2_with (first
        | (go_at_call 84; (with_reducible refine HM.out.mono ?_); rintro e w1 ⟨rfl, rfl⟩)
        | (go_at_call 85; (with_reducible refine HM2.out.mono ?_); rintro e w1 ⟨rfl, rfl⟩)
        | (go_at_call 65; (with_reducible refine (HS.out _).mono ?_); rintro e w1 ⟨rfl, hb1⟩; have g1 := HB2.out.below hb1 (by omega); have q0 : w1.cell? ⟨w.heap.size + 1 + 1, 0, none⟩ = _ := g1.cell 0; have q1 : w1.cell? ⟨w.heap.size + 1 + 1, 1, none⟩ = _ := g1.cell 1; have q2 : w1.cell? ⟨w.heap.size + 1 + 1, 2, none⟩ = _ := g1.cell 2; have q3 : w1.frozen? ⟨w.heap.size + 1 + 1, 0, none⟩ = false := g1.frozen 0; have q5 : w1.frozen? ⟨w.heap.size + 1 + 1, 1, none⟩ = false := g1.frozen 1; have q6 : w1.frozen? ⟨w.heap.size + 1 + 1, 2, none⟩ = false := g1.frozen 2; have q4 : w.heap.size + 1 + 1 < w1.heap.size := g1.lt; have G1 := Lib.hid g1; have HB1 := Lib.hid (HBW.out.trans (hb1.mono (by omega))); clear hb1 g1))
      refine bodyPost_ret (res_ty rfl _ _ (w.heap.size + 1 + 1) _ _ _ rfl (((G1.out.set_ 0 _).set_ 1 _).set_ 2 _)) rfl ⟨rfl, ?_⟩
      exact below_set (below_set (below_set HB1.out (by omega) _ _) (by omega) _ _) (by omega) _ _
end Go.Proofs.Ytcdpjodnbegepaa
