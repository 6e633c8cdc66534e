/- The parser of layer 7 (ptext): number. -/
import Derived.Test.YtipapemcedkinaaP2
namespace Go.Proofs.Ytipapemcedkinaa
open Go.RowKit Go.PlainAid

theorem one_is {s : ByteArray} {k b : Nat} (hk : k < b) (hb : b ≤ s.size) : ((s.extract k b).toList = [48]) ↔ (b = k + 1 ∧ Go.PlainAid.bt s k = 48) := by
  rw [is_zero, ByteArray.size_extract, bt_sub hb (by omega), Nat.add_zero]
  constructor
  · rintro ⟨h1, h2⟩; exact ⟨by omega, h2⟩
  · rintro ⟨h1, h2⟩; exact ⟨by omega, h2⟩
set_option maxRecDepth 100000 in
set_option maxHeartbeats 4000000 in
theorem p_number (pb : Nat) (s : ByteArray) (k : Nat) (w : World) (h : Ps pb s k w) (hk : k ≤ s.size) (hs : s.size ≤ 65536) :
    Calls Try.prog 25 #[.pointer (some ⟨pb, 0, none⟩)] w (NumP pb s w (numR s k)) := by
  have H0 := Lib.hid h
  have c0 : w.cell? ⟨pb, 1, none⟩ = some (.int .i64 (k : Int)) := h.cell 1
  obtain ⟨n, hn⟩ : ∃ n, nlen s k = n := ⟨_, rfl⟩
  have HNS : Hid (NS s k n 0) := Lib.hid ⟨.inl rfl, by omega, hn, fun h => absurd rfl h⟩
  have HPR : Hid (n ≠ 0 → ∀ w, Calls Try.prog 39 #[.string (s.extract k (k + n)), .int .i64 0, .int .i64 9999] w fun e w' => e = .returned (.tuple #[.int .i64 (nval s k n), .int .i64 0]) ∧ w' = w) := Lib.hid (fun h0 w => by
    have h1 := num_Parse (s.extract k (k + n)) 0 9999 w (by rw [ByteArray.size_extract]; omega) (by omega) (by omega) (by omega) (by omega)
    have h2 := nparse hk (by rw [hn]; exact h0)
    rw [hn] at h2
    rw [h2] at h1
    exact h1.mono fun e w' h => ⟨h.1, h.2.symm⟩)
  have HN1 : Hid (n = 0 → numR s k = .bad k) := Lib.hid (fun h => by unfold numR; rw [hn, if_pos h])
  have HN2 : Hid (n ≠ 0 → numR s k = .ok (nval s k n) (k + n)) := Lib.hid (fun h => by unfold numR; rw [hn, if_neg h])
  obtain ⟨R, hR⟩ : ∃ R, numR s k = R := ⟨_, rfl⟩
  rw [hR] at HN1 HN2 ⊢
  clear h hn hR
  go_enter Try.func25, Try.ntmps25
  go_wp2
  go_loopg [4] 4 (fun g _ wr => ∃ j kj : Nat, j + g = 4 ∧ kj = k + j ∧ kj ≤ s.size ∧ Hid (NS s k n j) ∧ Hid (Ps pb s kj wr) ∧ Hid (Frm (At pb) w wr))
  case atStart => exact ⟨0, k, rfl, rfl, hk, HNS, H0, Lib.hid (Frm.refl _ _)⟩
  case round =>
    obtain ⟨j, kj, hg, ekj, hkj, HV, HP, HF⟩ := hrel
    clear HNS H0
    have HD := Lib.hid (p_digit pb s kj wr HP.out hkj hs)
    have EK := Lib.hid ekj
    by_cases hd : dig s kj
    · have hlt := dig_lt hd
      have hdd : decide (48 ≤ Go.PlainAid.bt s kj ∧ Go.PlainAid.bt s kj ≤ 57) = true := decide_eq_true hd
      rw [hdd] at HD
      have HDG := Lib.hid hd
      have c1 : ∀ m, (wr.drewN m).cell? ⟨pb, 1, none⟩ = some (.int .i64 (kj : Int)) := fun m => (HP.out.drewN m).cell 1
      have f1 : ∀ m, (wr.drewN m).frozen? ⟨pb, 1, none⟩ = false := fun m => (HP.out.drewN m).frozen 1
      have hk2 : (k : Int) ≤ (kj : Int) + 1 := by omega
      have hk3 : (kj : Int) + 1 ≤ (s.size : Int) := by omega
      have hk4 : ((kj : Int) + 1).toNat = kj + 1 := by omega
      have hk5 : ¬ (s.size : Int) < (kj : Int) + 1 := by omega
      have hk6 : ¬ (kj : Int) + 1 < (k : Int) := by omega
      have HU : Hid (∀ m, Ps pb s (kj + 1) ((wr.drewN m).setCell ⟨pb, 1, none⟩ (.int .i64 ((kj : Int) + 1)))) := Lib.hid (fun m => by
        have h := Ps.drew_put HP.out m (kj + 1)
        rw [show ((kj + 1 : Nat) : Int) = (kj : Int) + 1 by omega] at h
        exact h)
      have HG : Hid (∀ m, Frm (At pb) w ((wr.drewN m).setCell ⟨pb, 1, none⟩ (.int .i64 ((kj : Int) + 1)))) := Lib.hid (fun m => (HF.out.drewN m).set rfl _ _)
      have h1 := one_is (s := s) (k := k) (b := kj + 1) (by omega) (by omega)
      clear hd hdd HP HF ekj
      go_upto_region 3 with (go_at_call 38; (refine HD.out.mono ?_); rintro e w1 ⟨rfl, m, rfl⟩; have c2 := c1 m; have f2 := f1 m; clear c1 f1)
      go_upto_region 4 with (fail)
      have HU2 := Lib.hid (HU.out m)
      have HG2 := Lib.hid (HG.out m)
      clear HU HG c2 f2
      generalize (wr.drewN m).setCell ⟨pb, 1, none⟩ (.int .i64 ((kj : Int) + 1)) = w2 at *
      have d0 : w2.cell? ⟨pb, 0, none⟩ = some (.string s) := HU2.out.cell 0
      have d1 : w2.cell? ⟨pb, 1, none⟩ = some (.int .i64 ((kj : Int) + 1)) := (HU2.out.cell 1).trans (by simp)
      go_quiet (fail)
      go_upto_region 5 with (fail)
      have hxs : (s.extract k (kj + 1)).size = j + 1 := by rw [ByteArray.size_extract]; have := EK.out; omega
      by_cases hz : j = 0 ∧ Go.PlainAid.bt s k = 48
      · obtain ⟨rfl, hz0⟩ := hz
        have hn1 : n = 1 := HV.out.zero hz0
        have hn0 : n ≠ 0 := by omega
        have tz : ((s.extract k (kj + 1)).toList == [48]) = true := by rw [h1.2 ⟨by have := EK.out; omega, hz0⟩]; rfl
        clear hz0 h1 hxs
        obtain ⟨x, hx⟩ : ∃ x, s.extract k (kj + 1) = x := ⟨_, rfl⟩
        rw [hx] at tz ⊢
        have HX : Hid (R = .ok (nval s k n) (kj + 1)) := Lib.hid (by rw [HN2.out hn0, show k + n = kj + 1 by have := EK.out; omega])
        have HNP : Hid (∀ w, Calls Try.prog 39 #[.string (s.extract k (kj + 1)), .int .i64 0, .int .i64 9999] w fun e w' => e = .returned (.tuple #[.int .i64 (nval s k n), .int .i64 0]) ∧ w' = w) := Lib.hid (by rw [show kj + 1 = k + n by have := EK.out; omega]; exact HPR.out hn0)
        have e1 : (((kj : Int) + 1) == (k : Int)) = false := by have := EK.out; simp; omega
        clear HPR HN1 HN2 HV hn1 hn0 hx
        go_wp2_with fail
        go_quiet ((go_at_call 39; exact (HNP.out _).mono fun _ _ h => ⟨h.1, _, h.2⟩))
        go_wp2
        go_ret
        rw [HX.out]
        exact ⟨rfl, (HG2.out.drewN _).drewN _, (HU2.out.drewN _).drewN _⟩
      · have tz : ((s.extract k (kj + 1)).toList == [48]) = false := by
          apply Bool.eq_false_iff.2
          intro h
          have h2 := h1.1 (by simpa using h)
          exact hz ⟨by have := EK.out; omega, h2.2⟩
        have h0n : Go.PlainAid.bt s k ≠ 48 := fun h => by
          rcases HV.out.1 with h2 | h2
          · exact hz ⟨h2, h⟩
          · exact h2 h
        have hnx := HV.out.next (by rw [← EK.out]; exact HDG.out) h0n
        have HZN := Lib.hid h0n
        clear hz h1 h0n
        by_cases h4 : j + 1 = 4
        · have hn1 : n = 4 := by rw [h4] at hnx; exact hnx
          have hn0 : n ≠ 0 := by omega
          rw [h4] at hxs
          have tl : ((s.extract k (kj + 1)).size : Int) = 4 := by omega
          clear hnx
          obtain ⟨x, hx⟩ : ∃ x, s.extract k (kj + 1) = x := ⟨_, rfl⟩
          rw [hx] at tz tl ⊢
          have HX : Hid (R = .ok (nval s k n) (kj + 1)) := Lib.hid (by rw [HN2.out hn0, show k + n = kj + 1 by have := EK.out; omega])
          have HNP : Hid (∀ w, Calls Try.prog 39 #[.string (s.extract k (kj + 1)), .int .i64 0, .int .i64 9999] w fun e w' => e = .returned (.tuple #[.int .i64 (nval s k n), .int .i64 0]) ∧ w' = w) := Lib.hid (by rw [show kj + 1 = k + n by have := EK.out; omega]; exact HPR.out hn0)
          have e1 : (((kj : Int) + 1) == (k : Int)) = false := by have := EK.out; simp; omega
          clear HPR HN1 HN2 HV hn1 hn0 hx
          go_wp2_with fail
          go_quiet ((go_at_call 39; exact (HNP.out _).mono fun _ _ h => ⟨h.1, _, h.2⟩))
          go_wp2
          go_ret
          rw [HX.out]
          exact ⟨rfl, (HG2.out.drewN _).drewN _, (HU2.out.drewN _).drewN _⟩
        · have tl : ((s.extract k (kj + 1)).size : Int) ≠ 4 := by rw [hxs]; omega
          have hj4 := HV.out.2.1
          have tl2 : (((s.extract k (kj + 1)).size : Int) == 4) = false := by rw [hxs]; simp; omega
          have HNX : Hid (NS s k n (j + 1)) := Lib.hid ⟨.inr HZN.out, by omega, HV.out.2.2.1, fun _ => hnx⟩
          obtain ⟨x, hx⟩ : ∃ x, s.extract k (kj + 1) = x := ⟨_, rfl⟩
          rw [hx] at tz tl tl2 ⊢
          clear hx hnx hxs HPR HN1 HN2 HV
          go_wp2
          cases gk with
          | zero => omega
          | succ gk =>
            go_roundg gk
            case rel => exact ⟨j + 1, kj + 1, by omega, by rw [EK.out]; omega, by omega, HNX, Lib.hid (HU2.out.drewN _), Lib.hid (HG2.out.drewN _)⟩
            case measure => omega
    · have hdd : decide (48 ≤ Go.PlainAid.bt s kj ∧ Go.PlainAid.bt s kj ≤ 57) = false := decide_eq_false hd
      rw [hdd] at HD
      have hnj : n = j := HV.out.stop (by rw [← ekj]; exact hd)
      have c1 : ∀ m, (wr.drewN m).cell? ⟨pb, 1, none⟩ = some (.int .i64 (kj : Int)) := fun m => (HP.out.drewN m).cell 1
      have c00 : ∀ m, (wr.drewN m).cell? ⟨pb, 0, none⟩ = some (.string s) := fun m => (HP.out.drewN m).cell 0
      by_cases hn0 : n = 0
      · have HX : Hid (R = .bad kj) := Lib.hid (by rw [HN1.out hn0, show kj = k by omega])
        have e1 : ((kj : Int) == (k : Int)) = true := by simp; omega
        clear HN1 HN2 HPR HV hnj hn0 ekj hd hdd
        go_wp2_with (go_at_call 38; (refine HD.out.mono ?_); rintro e w1 ⟨rfl, m, rfl⟩; have c2 := c1 m; clear c1)
        rw [HX.out]
        exact ⟨rfl, rfl, HF.out.drewN _⟩
      · have HX : Hid (R = .ok (nval s k n) kj) := Lib.hid (by rw [HN2.out hn0, show k + n = kj by omega])
        have HNP : Hid (∀ w, Calls Try.prog 39 #[.string (s.extract k kj), .int .i64 0, .int .i64 9999] w fun e w' => e = .returned (.tuple #[.int .i64 (nval s k n), .int .i64 0]) ∧ w' = w) := Lib.hid (by rw [show kj = k + n by omega]; exact HPR.out hn0)
        have e1 : ((kj : Int) == (k : Int)) = false := by simp; omega
        have hk2 : (k : Int) ≤ (kj : Int) := by omega
        have hk3 : (kj : Int) ≤ (s.size : Int) := by omega
        have hk5 : ¬ (s.size : Int) < (kj : Int) := by omega
        have hk6 : ¬ (kj : Int) < (k : Int) := by omega
        clear HN1 HN2 HPR HV hnj hn0 ekj hd hdd
        go_wp2_with (go_at_call 38; (refine HD.out.mono ?_); rintro e w1 ⟨rfl, m, rfl⟩; have c2 := c1 m; clear c1 c00)
        have d0 : wr.cell? ⟨pb, 0, none⟩ = some (.string s) := HP.out.cell 0
        have d1 : wr.cell? ⟨pb, 1, none⟩ = some (.int .i64 (kj : Int)) := HP.out.cell 1
        go_quiet ((go_at_call 39; exact (HNP.out _).mono fun _ _ h => ⟨h.1, _, h.2⟩))
        go_wp2
        go_ret
        rw [HX.out]
        exact ⟨rfl, (HF.out.drewN _).drewN _, (HP.out.drewN _).drewN _⟩
end Go.Proofs.Ytipapemcedkinaa
