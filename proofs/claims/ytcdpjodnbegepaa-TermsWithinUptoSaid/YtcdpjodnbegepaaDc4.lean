/- The contract of detach; layer 30 (terms). -/
import Derived.Test.YtcdpjodnbegepaaDc3
import Derived.RegionTactic
namespace Go.Proofs.Ytcdpjodnbegepaa
open Go.RowKit

set_option maxRecDepth 100000 in
set_option maxHeartbeats 4000000 in
theorem pr_detach : ∀ (n : Nat) t, t.sz ≤ n → n ≤ 100000000 → ∀ (b f bl : Nat) (A : Option Addr) (c : Nat) (k : Int) (N : Nat → Prop) (w : World),
    w.cell? ⟨b, f + 3, none⟩ = some (.slice A t.ks.length c) → w.frozen? ⟨b, f + 3, none⟩ = false → b < w.heap.size → bl ≠ b → Blk w bl 3 #[.int .i64 k] → RepS (Pn N b bl w) w A t → (∀ x, N x → x < w.heap.size) →
    Calls Try.prog 78 #[.pointer (some ⟨b, f, none⟩), .pointer (some ⟨bl, 0, none⟩)] w (DetP b (f + 3) bl t N w) := by
  intro n
  induction n with
  | zero => intro t h; have := sz_eq t; omega
  | succ n ih =>
    intro t ht hn b f bl A c k N w hcell hfz hb hbl hB hR hN
    have HIH := Lib.hid (fun t h => ih t h (by omega))
    have hlen := szL_len t.ks
    have hszt := sz_eq t
    have hkb : t.ks.length ≤ 1000000000 := by omega
    have HKS := Lib.hid (fun i (hi : i < t.ks.length) => (show (kd t.ks i).sz ≤ n by have := kd_sz hi; omega))
    clear ih hszt hlen
    have HR := Lib.hid hR
    have HB := Lib.hid hB
    have HN := Lib.hid hN
    have e0 : w.cell? ⟨bl, 0, none⟩ = some (.int .i64 k) := hB.cell 0
    have f0 := hB.frozen 0
    have l0 := hB.lt
    clear hR hB hN
    obtain ⟨m, hm⟩ : ∃ m, t.ks.length = m := ⟨_, rfl⟩
    rw [hm] at hcell hkb
    have HM := Lib.hid hm
    clear hm
    obtain ⟨k1, hk1⟩ : ∃ k1, wrap64 (k - ↑m) = k1 := ⟨_, rfl⟩
    obtain ⟨W1, hW1⟩ : ∃ W1, (w.setCell ⟨bl, 0, none⟩ (.int .i64 k1)).drew = W1 := ⟨_, rfl⟩
    have F1 : Fd b (f + 3) bl w W1 := by
      rw [← hW1]
      exact ((Fd.refl b (f + 3) bl w).setL hbl 0 _).trans (Fd.below ((Below.refl _ _).drew) (by simpa using hb))
    have B1 : Blk W1 bl 3 #[.int .i64 k1] := by rw [← hW1]; exact HB.out.set_ 0 _
    have c1 : W1.cell? ⟨b, f + 3, none⟩ = some (.slice A m c) := by
      have hbk : W1.heap[b]? = w.heap[b]? := by
        rw [← hW1]
        have hn : ¬ bl = b := hbl
        simp [World.setCell, World.drew, Array.getElem?_modify, hn]
      exact (World.cell?_of_block (a := ⟨b, f + 3, none⟩) hbk).trans hcell
    have hz1 : W1.heap.size = w.heap.size := by rw [← hW1]; simp
    have R1 : RepS (Pn N b bl W1) W1 A t := (HR.out.kept (fun x hx => F1.block x hx.2.2.2 hx.2.1 hx.2.2.1)).mono (fun x hx => ⟨hx.1, hx.2.1, hx.2.2.1, by rw [hz1]; exact hx.2.2.2⟩)
    have HW1 := Lib.hid hW1
    have HF1 := Lib.hid F1
    have HB1 := Lib.hid B1
    have HC1 := Lib.hid c1
    have HR1 := Lib.hid R1
    have HZ1 := Lib.hid hz1
    clear hW1 F1 B1 c1 R1 hz1
    by_cases hneg : k1 < 0
    · go_enter Try.func78, Try.ntmps78
      go_wp2_with fail
      go_region
      all_goals go_wp2_with fail
      rw [HW1.out]
      refine bodyPost_ret (results_none rfl _ _ _) rfl ⟨rfl, A, c, k1, ?_, HB1.out, HR1.out, HF1.out⟩
      rw [HM.out]; exact HC1.out
    · obtain ⟨ka, kc, hkk, hcl⟩ := clone_tree c HR1.out (fun x hx => hx.2.2.2) (by rw [HM.out]; exact hkb)
      have HKK := Lib.hid hkk
      rw [HM.out] at hcl
      have HCL := Lib.hid hcl
      clear hkk hcl
      go_enter Try.func78, Try.ntmps78
      go_wp2_with fail
      go_region
      all_goals go_upto_region 3 with (go_at_call 79; rw [HW1.out]; (with_reducible refine HCL.out.mono ?_); rintro e w2 ⟨A2, c2, rfl, hb2, hg2⟩; have HB2 := Lib.hid hb2; have HG2 := Lib.hid hg2; have u0 : w2.cell? ⟨b, f + 3, none⟩ = some (.slice A m c) := (hb2.cell (p := ⟨b, f + 3, none⟩) (by rw [HZ1.out]; exact hb)).trans HC1.out; have u1 : w2.frozen? ⟨b, f + 3, none⟩ = false := (hb2.frozen (p := ⟨b, f + 3, none⟩) (by rw [HZ1.out]; exact hb)).trans (HF1.out.frozen _ hfz); have u2 := hb2.size; clear hb2 hg2)
      obtain ⟨w3, hw3⟩ : ∃ w3, w2.setCell ⟨b, f + 3, none⟩ (.slice A2 m c2) = w3 := ⟨_, rfl⟩
      rw [hw3]
      have hzz := HZ1.out
      have hb2w : b < w2.heap.size := by omega
      have hz3 : w3.heap.size = w2.heap.size := by rw [← hw3]; simp
      have k3 : w3.cell? ⟨b, f + 3, none⟩ = some (.slice A2 m c2) := by rw [← hw3]; exact sc_eq w2 _ (by rw [u0]; rfl)
      have F3 : Fd b (f + 3) bl w w3 := by
        rw [← hw3]
        exact (HF1.out.trans (Fd.below HB2.out (by omega))).setC _ (by rw [u0]; rfl)
      have hblk : ∀ x, x ≠ b → w3.heap[x]? = w2.heap[x]? := fun x hx => by
        have hn : ¬ b = x := fun e => hx e.symm
        rw [← hw3]
        simp [World.setCell, Array.getElem?_modify, hn]
      have B3 : Blk w3 bl 3 #[.int .i64 k1] := (hblk bl hbl).trans (HB1.out.below HB2.out (by omega))
      have K3 : 0 < m → ∃ g, A2 = some ⟨g, 0, none⟩ ∧ w.heap.size ≤ g ∧ g < w3.heap.size ∧ KidsIn N b bl g t w3 := fun hp => by
        obtain ⟨g, e1, e2, e3, e4, e5⟩ := HG2.out hp
        have hgb : g ≠ b := by omega
        refine ⟨g, e1, by omega, by omega, ka, kc, fun i hi => ?_⟩
        have hi' : i < m := by rw [← HM.out]; exact hi
        have gc : ∀ j, j < 4 → w3.cell? ⟨g, i * 4 + j, none⟩ = [Value.int .i64 (kd t.ks i).op, .int .i64 (kd t.ks i).vr, .string (kd t.ks i).nm, .slice (ka i) (kd t.ks i).ks.length (kc i)][j]? := fun j hj => by
          rw [World.cell?_of_block (a := ⟨g, i * 4 + j, none⟩) (hblk g hgb), e4 (i * 4 + j) (by omega), csOf_at hi hj]
        refine ⟨⟨gc 0 (by omega), gc 1 (by omega), gc 2 (by omega), gc 3 (by omega)⟩, (World.frozen?_of_block (a := ⟨g, i * 4 + 3, none⟩) (hblk g hgb)).trans (e5 _), ?_⟩
        refine ((HKK.out i hi).kept (fun x hx => (hblk x hx.2.1).trans (HB2.out.block x hx.2.2.2))).mono (fun x hx => ⟨fun y => ?_, by have := hx.2.2.2; omega, hx.2.2.1, by have := hx.2.2.2; omega⟩)
        rcases y with y | y
        · exact hx.1 y
        · exact hx.2.1 y
      have HK3 := Lib.hid K3
      have HF3 := Lib.hid F3
      have HB3 := Lib.hid B3
      have HZ3 : Hid (w.heap.size ≤ w3.heap.size) := Lib.hid (by omega)
      clear hw3 F3 B3 K3 hblk hz3 u0 u1 u2 HB2 HG2 hzz hb2w HKK HCL HW1 HF1 HB1 HC1 HR1 HZ1 hneg
      go_wp2_with fail
      go_loopw [32] (fun i wr => ∃ (j : Nat) (kk : Int), j ≤ m ∧ i = .int .i64 (j : Int) ∧ wr.cell? ⟨b, f + 3, none⟩ = some (.slice A2 m c2) ∧ Hid (Blk wr bl 3 #[.int .i64 kk]) ∧ Hid (Fd b (f + 3) bl w wr) ∧ Hid (0 < m → ∃ g, A2 = some ⟨g, 0, none⟩ ∧ w.heap.size ≤ g ∧ g < wr.heap.size ∧ KidsIn N b bl g t wr)) (fun i _ => m - (intOf i).toNat)
      case atStart => exact ⟨0, k1, Nat.zero_le _, rfl, k3, HB3, HF3, HK3⟩
      case round =>
        obtain ⟨j, kk, hj, rfl, hcw, HBk, HFk, HKk⟩ := hrel
        by_cases hlt : j < m
        · have x1 : (j : Int) < (m : Int) := by omega
          have x0 : (0 : Int) ≤ (j : Int) := by omega
          obtain ⟨g, rfl, hg1, hg2, hki⟩ := HKk.out (by omega)
          have hbl2 := HB.out.lt
          have hjt : j < t.ks.length := by rw [HM.out]; exact hlt
          have HKI := Lib.hid hki
          have hsw := HFk.out.size
          have hC : Calls Try.prog 78 #[.pointer (some ⟨g, j * 4, none⟩), .pointer (some ⟨bl, 0, none⟩)] wr (DetP g (j * 4 + 3) bl (kd t.ks j) (fun x => N x ∨ x = b) wr) := by
            obtain ⟨ka2, kc2, hk2⟩ := hki
            obtain ⟨⟨_, _, _, d2⟩, hfr, hrep⟩ := hk2 j hjt
            exact HIH.out (kd t.ks j) (HKS.out j hjt) g (j * 4) bl (ka2 j) (kc2 j) kk (fun x => N x ∨ x = b) wr d2 hfr hg2 (by omega) HBk.out hrep (fun x hx => by
              rcases hx with hx | hx
              · have := HN.out x hx; omega
              · omega)
          have HC := Lib.hid hC
          clear hC hki
          go_wp2_with (go_at_call 78; (with_reducible refine HC.out.mono ?_); rintro e w4 hdp; have hrt := hdp.1; subst hrt; have HD := Lib.hid hdp; clear hdp)
          obtain ⟨_, A4, c4, k4, _, hB4, _, hF4⟩ := HD.out
          have hcb : w4.heap[b]? = wr.heap[b]? := hF4.block b (by omega) (by omega) (fun e => hbl e.symm)
          have hcw4 : w4.cell? ⟨b, f + 3, none⟩ = some (.slice (some ⟨g, 0, none⟩) m c2) := (World.cell?_of_block (a := ⟨b, f + 3, none⟩) hcb).trans hcw
          have HB4 := Lib.hid hB4
          have HF4 : Hid (Fd b (f + 3) bl w w4) := Lib.hid (HFk.out.inner hF4 hg1 hb hbl)
          have HK4 : Hid (0 < m → ∃ g', (some ⟨g, 0, none⟩ : Option Addr) = some ⟨g', 0, none⟩ ∧ w.heap.size ≤ g' ∧ g' < w4.heap.size ∧ KidsIn N b bl g' t w4) := Lib.hid (fun _ => ⟨g, rfl, hg1, Nat.lt_of_lt_of_le hg2 hF4.size, HKI.out.step hjt HD.out⟩)
          clear hF4 hB4 HD hcb hcw
          go_wp2
          go_roundw
          case rel => exact ⟨j + 1, k4, by omega, by go_num, hcw4, HB4, HF4, HK4⟩
          case measure => simp [intOf]; try omega
        · have x1 : ¬ (j : Int) < (m : Int) := by omega
          go_wp2
          refine bodyPost_ret (results_none rfl _ _ _) rfl ⟨rfl, A2, c2, kk, by rw [HM.out]; exact hcw, HBk.out, ?_, HFk.out⟩
          rcases Nat.eq_zero_or_pos m with h0 | h0
          · exact RepS.leaf (by rw [HM.out]; exact h0)
          · obtain ⟨g, rfl, hg1, hg2, hki⟩ := HKk.out h0
            have hbl2 := HB.out.lt
            exact hki.rep HN.out hg1 hg2 (by omega) (by omega)
end Go.Proofs.Ytcdpjodnbegepaa
