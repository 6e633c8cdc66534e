/- Pushed of the specification, where it holds; layer 32 (forms). -/
import Derived.Test.YtnjkphopklbogaaRb
namespace Go.Proofs.Ytnjkphopklbogaa
open Go.RowKit

theorem pdL_mem : ∀ {l : List Fx}, pdL l = true → ∀ u, u ∈ l → pdF u = true
  | a :: r, h, u, hu => by
    have h2 : (pdF a && pdL r) = true := h
    rw [Bool.and_eq_true] at h2
    rcases List.mem_cons.1 hu with rfl | h3
    · exact h2.1
    · exact pdL_mem h2.2 u h3
theorem pd_parts {t : Fx} (h : pdF t = true) : t.op ≠ 5 ∧ pdL t.ks = true ∧ (t.op = 2 → t.ks.length = 1 ∧ ((fkd t.ks 0).op = 9 ∨ (fkd t.ks 0).op = 13)) := by
  obtain ⟨o, e, ks⟩ := t
  have h2 : (!(o == 5 || (o == 2 && (!(ks.length == 1) || (!((fkd ks 0).op == 9) && !((fkd ks 0).op == 13))))) && pdL ks) = true := h
  rw [Bool.and_eq_true] at h2
  obtain ⟨h3, h4⟩ := h2
  simp at h3
  refine ⟨h3.1, h4, fun ho => ?_⟩
  rcases h3.2 with q | q
  · exact absurd ho q
  · exact q
set_option maxRecDepth 100000 in
set_option maxHeartbeats 8000000 in
theorem rf_Pushed : ∀ (n : Nat) t, t.sz ≤ n → n ≤ 100000000 → pdF t = true → ∀ E dd A c w, Fm w.heap.size w t E A →
    Calls Try.prog 27 #[fV t E dd A c] w (ValP w true) := by
  intro n
  induction n with
  | zero => intro t h; have := fsz_pos t; omega
  | succ n ih =>
    intro t ht hnn hpd E dd A c w hR
    have HIH := Lib.hid ih
    have HR := Lib.hid hR
    have hkb : t.ks.length ≤ 1000000000 := by have := fkl_sz t; omega
    obtain ⟨h5, hl, h2⟩ := pd_parts hpd
    have HPL : Hid (∀ u, u ∈ t.ks → pdF u = true) := Lib.hid (pdL_mem hl)
    have HAL : Hid (∀ o, Below w.heap.size w (w.alloc o)) := Lib.hid (fun o => bal _ _)
    have HF := Lib.hid (fal t E A dd c w)
    have HX : Hid (∀ wx, Below (w.alloc (.cells (fC t E dd A c) 27)).heap.size (w.alloc (.cells (fC t E dd A c) 27)) wx → FAt wx w.heap.size 0 t E dd A c ∧ Below w.heap.size w wx ∧ w.heap.size < wx.heap.size) := Lib.hid (fun wx hb => ⟨HF.out.below hb (by simp), bt (HAL.out _) hb, by have := hb.size; simp at this; omega⟩)
    have g5 : (t.op == 5) = false := by simp [h5]
    clear ih hR hpd hl h5
    by_cases ho : t.op = 2
    · obtain ⟨hn1, hk9⟩ := h2 ho
      obtain ⟨b0, f1, rfl, hb0, hc0⟩ := HR.out.2.out (by omega)
      obtain ⟨ea0, ec0, ka0, kc0, hat0, _, _⟩ := hc0 0 (by omega)
      rw [Nat.zero_mul, Nat.add_zero] at hat0
      have k0 : (w.alloc (.cells (fC t E dd (some ⟨b0, f1, none⟩) c) 27)).cell? ⟨b0, f1, none⟩ = some (.int .i64 (fkd t.ks 0).op) := (hat0.below (HAL.out _) hb0).c0
      have kb : b0 < (w.alloc (.cells (fC t E dd (some ⟨b0, f1, none⟩) c) 27)).heap.size := by have h := (HAL.out (.cells (fC t E dd (some ⟨b0, f1, none⟩) c) 27)).size; omega
      have g2 : (t.op == 2) = true := by simp [ho]
      have gl : ((t.ks.length : Int) != 1) = false := by rw [hn1]; rfl
      have gz : (0 : Int) < (t.ks.length : Int) := by omega
      obtain ⟨p0, p1, p2, p3, p4, p5⟩ := HF.out
      clear ho h2 hn1 hb0 hc0 hat0
      rcases hk9 with hk9 | hk9
      · have gk : ((fkd t.ks 0).op != 9) = false := by rw [hk9]; rfl
        have gk2 : ((fkd t.ks 0).op != 13) = true := by rw [hk9]; rfl
        clear hk9
        go_enter Try.func27, Try.ntmps27
        go_wp2
        go_loopw [3] (fun i wr => ∃ (j : Nat), j ≤ t.ks.length ∧ i = .int .i64 (j : Int) ∧ Below (w.alloc (.cells (fC t E dd (some ⟨b0, f1, none⟩) c) 27)).heap.size (w.alloc (.cells (fC t E dd (some ⟨b0, f1, none⟩) c) 27)) wr) (fun i _ => t.ks.length - (intOf i).toNat)
        case atStart => exact ⟨0, Nat.zero_le _, rfl, Below.refl _ _⟩
        case round =>
          obtain ⟨j, hj, rfl, hb⟩ := hrel
          obtain ⟨⟨q0, q1, q2, q3, q4, q5⟩, hbw, hszr⟩ := HX.out _ hb
          by_cases hlt : j < t.ks.length
          · have l1 : (j : Int) < (t.ks.length : Int) := by omega
            obtain ⟨b, f0, HEQ, hbl, hc⟩ := HR.out.2.out (by omega)
            obtain ⟨rfl, rfl⟩ : b0 = b ∧ f1 = f0 := by simpa using HEQ
            clear HEQ
            obtain ⟨ea, ec, ka, kc, hAt, hRe, hRk⟩ := hc j hlt
            obtain ⟨d0, d1, d2, d3, d4, d5⟩ := hAt.below hbw hbl
            have hu := fkd_sz hlt
            have HC := Lib.hid (HIH.out (fkd t.ks j) (by omega) (by omega) (HPL.out _ (fkd_mem hlt)) ea ec ka kc wr ⟨hRe.step hbw, hRk.step hbw⟩)
            clear hc hAt hRe hRk hu
            generalize fkd t.ks j = u at *
            go_wp2_with (go_at_call 27; (with_reducible refine HC.out.mono ?_); rintro e w3 ⟨rfl, hb3⟩; have HB3 := Lib.hid (hb.trans (hb3.mono hb.size)); clear hb3)
            go_roundw
            case rel => exact ⟨j + 1, by omega, by go_num, HB3.out⟩
            case measure => simp [intOf]; try omega
          · have l1 : ¬ (j : Int) < (t.ks.length : Int) := by omega
            go_wp2
            go_ret
            exact ⟨rfl, hbw⟩
      · have gk : ((fkd t.ks 0).op != 9) = true := by rw [hk9]; rfl
        have gk2 : ((fkd t.ks 0).op != 13) = false := by rw [hk9]; rfl
        clear hk9
        go_enter Try.func27, Try.ntmps27
        go_wp2
        go_loopw [3] (fun i wr => ∃ (j : Nat), j ≤ t.ks.length ∧ i = .int .i64 (j : Int) ∧ Below (w.alloc (.cells (fC t E dd (some ⟨b0, f1, none⟩) c) 27)).heap.size (w.alloc (.cells (fC t E dd (some ⟨b0, f1, none⟩) c) 27)) wr) (fun i _ => t.ks.length - (intOf i).toNat)
        case atStart => exact ⟨0, Nat.zero_le _, rfl, Below.refl _ _⟩
        case round =>
          obtain ⟨j, hj, rfl, hb⟩ := hrel
          obtain ⟨⟨q0, q1, q2, q3, q4, q5⟩, hbw, hszr⟩ := HX.out _ hb
          by_cases hlt : j < t.ks.length
          · have l1 : (j : Int) < (t.ks.length : Int) := by omega
            obtain ⟨b, f0, HEQ, hbl, hc⟩ := HR.out.2.out (by omega)
            obtain ⟨rfl, rfl⟩ : b0 = b ∧ f1 = f0 := by simpa using HEQ
            clear HEQ
            obtain ⟨ea, ec, ka, kc, hAt, hRe, hRk⟩ := hc j hlt
            obtain ⟨d0, d1, d2, d3, d4, d5⟩ := hAt.below hbw hbl
            have hu := fkd_sz hlt
            have HC := Lib.hid (HIH.out (fkd t.ks j) (by omega) (by omega) (HPL.out _ (fkd_mem hlt)) ea ec ka kc wr ⟨hRe.step hbw, hRk.step hbw⟩)
            clear hc hAt hRe hRk hu
            generalize fkd t.ks j = u at *
            go_wp2_with (go_at_call 27; (with_reducible refine HC.out.mono ?_); rintro e w3 ⟨rfl, hb3⟩; have HB3 := Lib.hid (hb.trans (hb3.mono hb.size)); clear hb3)
            go_roundw
            case rel => exact ⟨j + 1, by omega, by go_num, HB3.out⟩
            case measure => simp [intOf]; try omega
          · have l1 : ¬ (j : Int) < (t.ks.length : Int) := by omega
            go_wp2
            go_ret
            exact ⟨rfl, hbw⟩
    · have g2 : (t.op == 2) = false := by simp [ho]
      obtain ⟨p0, p1, p2, p3, p4, p5⟩ := HF.out
      clear ho h2
      go_enter Try.func27, Try.ntmps27
      go_wp2
      go_loopw [3] (fun i wr => ∃ (j : Nat), j ≤ t.ks.length ∧ i = .int .i64 (j : Int) ∧ Below (w.alloc (.cells (fC t E dd A c) 27)).heap.size (w.alloc (.cells (fC t E dd A c) 27)) wr) (fun i _ => t.ks.length - (intOf i).toNat)
      case atStart => exact ⟨0, Nat.zero_le _, rfl, Below.refl _ _⟩
      case round =>
        obtain ⟨j, hj, rfl, hb⟩ := hrel
        obtain ⟨⟨q0, q1, q2, q3, q4, q5⟩, hbw, hszr⟩ := HX.out _ hb
        by_cases hlt : j < t.ks.length
        · have l1 : (j : Int) < (t.ks.length : Int) := by omega
          obtain ⟨b, f0, HEQ, hbl, hc⟩ := HR.out.2.out (by omega)
          subst HEQ
          obtain ⟨ea, ec, ka, kc, hAt, hRe, hRk⟩ := hc j hlt
          obtain ⟨d0, d1, d2, d3, d4, d5⟩ := hAt.below hbw hbl
          have hu := fkd_sz hlt
          have HC := Lib.hid (HIH.out (fkd t.ks j) (by omega) (by omega) (HPL.out _ (fkd_mem hlt)) ea ec ka kc wr ⟨hRe.step hbw, hRk.step hbw⟩)
          clear hc hAt hRe hRk hu
          generalize fkd t.ks j = u at *
          go_wp2_with (go_at_call 27; (with_reducible refine HC.out.mono ?_); rintro e w3 ⟨rfl, hb3⟩; have HB3 := Lib.hid (hb.trans (hb3.mono hb.size)); clear hb3)
          go_roundw
          case rel => exact ⟨j + 1, by omega, by go_num, HB3.out⟩
          case measure => simp [intOf]; try omega
        · have l1 : ¬ (j : Int) < (t.ks.length : Int) := by omega
          go_wp2
          go_ret
          exact ⟨rfl, hbw⟩
end Go.Proofs.Ytnjkphopklbogaa
