/- Contracts of join, And, Or, Not, Var; layer 6 (prop). -/
import Derived.Test.YtakhdlidikbnjaaFnJ
namespace Go.Proofs.Ytakhdlidikbnjaa
open Go.RowKit

theorem Fd.blk {b f bl : Nat} {w w' : World} (h : Fd b f bl w w') {x : Nat} {t : TypeId} {cs : Array Value} (hx : Blk w x t cs) (h1 : x ≠ b) (h2 : x ≠ bl) : Blk w' x t cs := (h.block x hx.lt h1 h2).trans hx
theorem Fd.toBelow {b f bl B : Nat} {a w w' : World} (h : Fd b f bl w w') (hb : Below B a w) (h1 : B ≤ b) (h2 : B ≤ bl) (h3 : B ≤ w.heap.size) : Below B a w' :=
  hb.trans ⟨h.os, h.tape, h.output, h.size, fun k hk => h.block k (by omega) (by omega) (by omega)⟩
/-- e returns the tree t, in memory of Q or new. -/
def GivesT (Q : Nat → Prop) (w : World) (t : Ex) (e : Ending) (w' : World) : Prop := ∃ A c, e = .returned (exV t A c) ∧ RepS (fun x => (Q x ∨ w.heap.size ≤ x) ∧ x < w'.heap.size) w' A t ∧ Below w.heap.size w w'
set_option maxRecDepth 100000 in
set_option maxHeartbeats 4000000 in
theorem pr_join (Q : Nat → Prop) (t : Ex) (hv : t.vr = 0) (A : Option Addr) (c : Nat) (w : World) (hs : t.sz ≤ 100000000) (hR : RepS Q w A t) (hQ : ∀ x, Q x → x < w.heap.size) :
    Calls Try.prog 37 #[.int .i64 t.op, .slice A t.ks.length c] w (GivesT Q w t) := by
  have hlen := szL_len t.ks
  have hszt := sz_eq t
  have hkb : t.ks.length ≤ 1000000000 := by omega
  have HKS := Lib.hid (fun i (hi : i < t.ks.length) => (show (kd t.ks i).sz ≤ 100000000 by have := kd_sz hi; omega))
  obtain ⟨W0, hW0⟩ : ∃ W0, w.alloc (.cells #[.int .i64 0, .int .i64 0, .slice none 0 0] 24) = W0 := ⟨_, rfl⟩
  have hb0 : Below w.heap.size w W0 := by rw [← hW0]; exact (Below.refl _ _).alloc (Nat.le_refl _) _
  have hz0 : W0.heap.size = w.heap.size + 1 := by rw [← hW0]; simp
  have hk0 : Blk W0 w.heap.size 24 #[.int .i64 0, .int .i64 0, .slice none 0 0] := by rw [← hW0]; exact Blk.new _ _ _
  obtain ⟨ka, kc, hkk, hcl⟩ := clone_tree c (hR.kept (w' := W0) (fun x hx => hb0.block x (hQ x hx))) (fun x hx => by have := hQ x hx; omega) hkb
  have HKK := Lib.hid hkk
  have HV := Lib.hid hv
  have HT := Lib.hid hs
  obtain ⟨m, hm⟩ : ∃ m, t.ks.length = m := ⟨_, rfl⟩
  rw [hm] at hcl hkb ⊢
  have HM := Lib.hid hm
  obtain ⟨o, ho⟩ : ∃ o, t.op = o := ⟨_, rfl⟩
  have HO := Lib.hid ho
  rw [ho]
  have HCL := Lib.hid hcl
  have HW0 := Lib.hid hW0
  have HB0 := Lib.hid hb0
  have HK0 := Lib.hid hk0
  have HZ0 := Lib.hid hz0
  have HQQ := Lib.hid hQ
  clear hkk hcl hm ho hW0 hb0 hk0 hR hszt hlen hv hs
  go_enter Try.func37, Try.ntmps37
  go_upto_region 3 with (go_at_call 48; rw [HW0.out]; (with_reducible refine HCL.out.mono ?_); rintro e w2 ⟨A2, c2, rfl, hb2, hg2⟩; have HB2 := Lib.hid hb2; have HG2 := Lib.hid hg2; clear hb2 hg2)
  have hW0 : Below W0.heap.size W0 w2 := HB2.out
  obtain ⟨w3, hw3⟩ : ∃ w3, (w2.alloc (.cells #[.int .i64 o, .int .i64 0, .slice A2 m c2] 24)).alloc (.cells #[.int .i64 4096] 3) = w3 := ⟨_, rfl⟩
  have hz2 := hW0.size
  have hzz := HZ0.out
  have he3 : Blk w3 w2.heap.size 24 #[.int .i64 o, .int .i64 0, .slice A2 m c2] := by rw [← hw3]; exact (Blk.new w2 24 _).alloc _
  have hl3 : Blk w3 (w2.heap.size + 1) 3 #[.int .i64 4096] := by
    have h := Blk.new (w2.alloc (.cells #[.int .i64 o, .int .i64 0, .slice A2 m c2] 24)) 3 #[.int .i64 4096]
    have z : (w2.alloc (.cells #[.int .i64 o, .int .i64 0, .slice A2 m c2] 24)).heap.size = w2.heap.size + 1 := by simp
    rw [z] at h
    rw [← hw3]; exact h
  have hb23 : Below w2.heap.size w2 w3 := by rw [← hw3]; exact al (al (Below.refl _ _) _) _
  have hz3 : w3.heap.size = w2.heap.size + 1 + 1 := by rw [← hw3]; simp
  have hb03 : Below W0.heap.size W0 w3 := hW0.trans (hb23.mono hz2)
  have h03 : Blk w3 w.heap.size 24 #[.int .i64 0, .int .i64 0, .slice none 0 0] := HK0.out.below hb03 (by omega)
  have hbw3 : Below w.heap.size w w3 := HB0.out.trans (hb03.mono (by omega))
  have K3 : 0 < m → ∃ g, A2 = some ⟨g, 0, none⟩ ∧ w.heap.size + 1 ≤ g ∧ g < w2.heap.size ∧ KidsIn (fun x => ¬ Q x ∧ x ≤ w.heap.size) w2.heap.size (w2.heap.size + 1) g t w3 := fun hp => by
    obtain ⟨g, e1, e2, e3, e4, e5⟩ := HG2.out hp
    refine ⟨g, e1, by omega, e3, ka, kc, fun i hi => ?_⟩
    have hi' : i < m := by rw [← HM.out]; exact hi
    have gc : ∀ j, j < 3 → w3.cell? ⟨g, i * 3 + j, none⟩ = [Value.int .i64 (kd t.ks i).op, .int .i64 (kd t.ks i).vr, .slice (ka i) (kd t.ks i).ks.length (kc i)][j]? := fun j hj => by
      rw [hb23.cell (p := ⟨g, i * 3 + j, none⟩) e3, e4 (i * 3 + j) (by omega), csOf_at hi hj]
    refine ⟨⟨gc 0 (by omega), gc 1 (by omega), gc 2 (by omega)⟩, (hb23.frozen (p := ⟨g, i * 3 + 2, none⟩) e3).trans (e5 _), ?_⟩
    exact ((HKK.out i hi).kept (fun x hx => hb03.block x (by have := hQ x hx; omega))).mono (fun x hx => ⟨fun y => y.elim (fun z => z.1 hx) (fun z => by have := hQ x hx; omega), by have := hQ x hx; omega, by have := hQ x hx; omega, by have := hQ x hx; omega⟩)
  rw [hw3]
  obtain ⟨be, hbe⟩ : ∃ be, w2.heap.size = be := ⟨_, rfl⟩
  rw [hbe] at he3 hl3 K3 hz3 ⊢
  have HH3 := Lib.hid h03
  have HE3 := Lib.hid he3
  have HL3 := Lib.hid hl3
  have HK3 := Lib.hid K3
  have HBW3 := Lib.hid hbw3
  have hbe1 : w.heap.size + 1 ≤ be := by omega
  have hz3' : be + 1 < w3.heap.size := by omega
  have p2 : w3.cell? ⟨be, 2, none⟩ = some (.slice A2 m c2) := he3.cell 2
  clear hw3 hz2 hzz he3 hl3 hb23 hz3 hb03 h03 hbw3 K3 hbe hW0 HB2 HG2 HKK HCL HK0 HB0 HW0 HZ0
  go_wp2_with fail
  go_loopw [15] (fun i wr => ∃ (j : Nat) (kk : Int), j ≤ m ∧ i = .int .i64 (j : Int) ∧ Hid (Blk wr be 24 #[.int .i64 o, .int .i64 0, .slice A2 m c2]) ∧ Hid (Blk wr (be + 1) 3 #[.int .i64 kk]) ∧ Hid (Blk wr w.heap.size 24 #[.int .i64 0, .int .i64 0, .slice none 0 0]) ∧ Hid (Below w.heap.size w wr) ∧ Hid (0 < m → ∃ g, A2 = some ⟨g, 0, none⟩ ∧ w.heap.size + 1 ≤ g ∧ g < be ∧ KidsIn (fun x => ¬ Q x ∧ x ≤ w.heap.size) be (be + 1) g t wr)) (fun i _ => m - (intOf i).toNat)
  case atStart => exact ⟨0, 4096, Nat.zero_le _, rfl, HE3, HL3, HH3, HBW3, HK3⟩
  case round =>
    obtain ⟨j, kk, hj, rfl, HEk, HLk, HHk, HBk, HKk⟩ := hrel
    have q2 : wr.cell? ⟨be, 2, none⟩ = some (.slice A2 m c2) := HEk.out.cell 2
    have hlb := HLk.out.lt
    by_cases hlt : j < m
    · have x1 : (j : Int) < (m : Int) := by omega
      have x0 : (0 : Int) ≤ (j : Int) := by omega
      obtain ⟨g, rfl, hg1, hg2, hki⟩ := HKk.out (by omega)
      have hjt : j < t.ks.length := by rw [HM.out]; exact hlt
      have HKI := Lib.hid hki
      have hC : Calls Try.prog 49 #[.pointer (some ⟨g, j * 3, none⟩), .pointer (some ⟨be + 1, 0, none⟩)] wr (DetP g (j * 3 + 2) (be + 1) (kd t.ks j) (fun x => (¬ Q x ∧ x ≤ w.heap.size) ∨ x = be) wr) := by
        obtain ⟨ka2, kc2, hk2⟩ := hki
        obtain ⟨⟨_, _, d2⟩, hfr, hrep⟩ := hk2 j hjt
        exact pr_detach _ (kd t.ks j) (HKS.out j hjt) (by omega) g (j * 3) (be + 1) (ka2 j) (kc2 j) kk (fun x => (¬ Q x ∧ x ≤ w.heap.size) ∨ x = be) wr d2 hfr (by omega) (by omega) HLk.out hrep (fun x hx => by rcases hx with hx | hx; have := hx.2; all_goals omega)
      have HC := Lib.hid hC
      clear hC hki
      go_wp2_with (go_at_call 49; (with_reducible refine HC.out.mono ?_); rintro e w4 hdp; have hrt := hdp.1; subst hrt; have HD := Lib.hid hdp; clear hdp)
      obtain ⟨_, A4, c4, k4, _, hB4, _, hF4⟩ := HD.out
      have HL4 := Lib.hid hB4
      have HE4 := Lib.hid (hF4.blk HEk.out (by omega) (by omega))
      have HH4 := Lib.hid (hF4.blk HHk.out (by omega) (by omega))
      have HB4 := Lib.hid (hF4.toBelow HBk.out (by omega) (by omega) HBk.out.size)
      have HK4 : Hid (0 < m → ∃ g', (some ⟨g, 0, none⟩ : Option Addr) = some ⟨g', 0, none⟩ ∧ w.heap.size + 1 ≤ g' ∧ g' < be ∧ KidsIn (fun x => ¬ Q x ∧ x ≤ w.heap.size) be (be + 1) g' t w4) := Lib.hid (fun _ => ⟨g, rfl, hg1, hg2, HKI.out.step hjt HD.out⟩)
      clear hF4 hB4 HD q2
      go_wp2
      go_roundw
      case rel => exact ⟨j + 1, k4, by omega, by go_num, HE4, HL4, HH4, HB4, HK4⟩
      case measure => simp [intOf]; try omega
    · have x1 : ¬ (j : Int) < (m : Int) := by omega
      have q0 : wr.cell? ⟨be, 0, none⟩ = some (.int .i64 o) := HEk.out.cell 0
      have q1 : wr.cell? ⟨be, 1, none⟩ = some (.int .i64 0) := HEk.out.cell 1
      have y0 : wr.cell? ⟨w.heap.size, 0, none⟩ = some (.int .i64 0) := HHk.out.cell 0
      have y1 : wr.cell? ⟨w.heap.size, 1, none⟩ = some (.int .i64 0) := HHk.out.cell 1
      have y2 : wr.cell? ⟨w.heap.size, 2, none⟩ = some (.slice none 0 0) := HHk.out.cell 2
      have z0 := HHk.out.frozen 0
      have z1 := HHk.out.frozen 1
      have z2 := HHk.out.frozen 2
      have hll := HHk.out.lt
      go_wp2
      obtain ⟨w5, hw5⟩ : ∃ w5, ((wr.setCell ⟨w.heap.size, 0, none⟩ (.int .i64 o)).setCell ⟨w.heap.size, 1, none⟩ (.int .i64 0)).setCell ⟨w.heap.size, 2, none⟩ (.slice A2 m c2) = w5 := ⟨_, rfl⟩
      have h5 : Blk w5 w.heap.size 24 #[.int .i64 o, .int .i64 0, .slice A2 m c2] := by rw [← hw5]; exact ((HHk.out.set_ 0 _).set_ 1 _).set_ 2 _
      have hblk : ∀ x, x ≠ w.heap.size → w5.heap[x]? = wr.heap[x]? := fun x hx => by
        have hn : ¬ w.heap.size = x := fun e => hx e.symm
        rw [← hw5]
        simp [World.setCell, Array.getElem?_modify, hn]
      have hz5 : w5.heap.size = wr.heap.size := by rw [← hw5]; simp
      have hb5 : Below w.heap.size w w5 := by
        rw [← hw5]
        exact ((HBk.out.setCell (by simp) _).setCell (by simp) _).setCell (by simp) _
      have d0 : w5.cell? ⟨w.heap.size, 0, none⟩ = some (.int .i64 o) := h5.cell 0
      have d1 : w5.cell? ⟨w.heap.size, 1, none⟩ = some (.int .i64 0) := h5.cell 1
      have d2 : w5.cell? ⟨w.heap.size, 2, none⟩ = some (.slice A2 m c2) := h5.cell 2
      have hrep : RepS (fun x => (Q x ∨ w.heap.size ≤ x) ∧ x < w5.heap.size) w5 A2 t := by
        rcases Nat.eq_zero_or_pos m with h0 | h0
        · exact RepS.leaf (by rw [HM.out]; exact h0)
        · obtain ⟨g, rfl, hg1, hg2, hki⟩ := HKk.out h0
          have hr := hki.rep (B0 := w.heap.size + 1) (fun x hx => by have := hx.2; omega) hg1 (by omega) (by omega) (by omega)
          exact (hr.kept (fun x hx => hblk x (fun e => hx.1 ⟨fun q => by have := HQQ.out x q; omega, by omega⟩))).mono (fun x hx => ⟨by
            by_cases q : Q x
            · exact .inl q
            · rcases Nat.lt_or_ge w.heap.size x with h | h
              · exact .inr (by omega)
              · exact absurd ⟨q, h⟩ hx.1, by rw [hz5]; exact hx.2.2.2⟩)
      rw [hw5]
      refine bodyPost_ret (v := .agg #[.int .i64 o, .int .i64 0, .slice A2 m c2]) (by simp [results, Try.results37, go_sem, d0, d1, d2]) rfl ⟨A2, c2, ?_, hrep, hb5⟩
      show _ = Ending.returned (.agg #[.int .i64 t.op, .int .i64 t.vr, .slice A2 t.ks.length c2])
      rw [HO.out, HV.out, HM.out]
theorem join_op (o : Int) (Q : Nat → Prop) (t : Ex) (ho : t.op = o) (hv : t.vr = 0) (A : Option Addr) (c : Nat) (w : World) (hs : t.sz ≤ 100000000) (hR : RepS Q w A t) (hQ : ∀ x, Q x → x < w.heap.size) :
    Calls Try.prog 37 #[.int .i64 o, .slice A t.ks.length c] w (GivesT Q w t) := by rw [← ho]; exact pr_join Q t hv A c w hs hR hQ
end Go.Proofs.Ytakhdlidikbnjaa
