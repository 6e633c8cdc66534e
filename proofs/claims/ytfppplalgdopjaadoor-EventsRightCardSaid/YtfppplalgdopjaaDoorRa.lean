/- The specification's Plan and Right; layer 28 (events). -/
import Derived.Test.YtfppplalgdopjaaDoorE5
namespace Go.Proofs.YtfppplalgdopjaaDoor
open Go.RowKit

set_option maxRecDepth 100000 in
set_option maxHeartbeats 8000000 in
theorem r_Plan (n : Nat) (L : List Ev) (A : Option Addr) (c : Nat) (w : World) (hn : n ≤ 64) (hR : RowG w w.heap.size A c (evC L)) (hl : L.length ≤ 1000000) :
    Calls Tryd.prog 24 #[.int .i64 (n : Int), .int .i64 0, .slice A L.length c] w fun e w' => e = .returned (.int .i64 (planR n L)) ∧ Below w.heap.size w w' := by
  have HR := Lib.hid hR
  clear hR
  have w1 : IntKind.i64.wrap ((n : Int) - 2) = (n : Int) - 2 := by rw [IntKind.wrap_i64]; omega
  by_cases hmany : 256 < L.length
  · have k1 : (256 : Int) < (L.length : Int) := by omega
    rw [show planR n L = 18 from if_pos hmany]
    go_enter Tryd.func24, Tryd.ntmps24
    go_wp2
    go_ret
    exact ⟨rfl, Below.refl _ _⟩
  · have k1 : ¬ (256 : Int) < (L.length : Int) := by omega
    rw [show planR n L = planF n L from if_neg hmany]
    go_enter Tryd.func24, Tryd.ntmps24
    go_wp2_with fail
    go_loopw [7] (fun i wr => ∃ k : Nat, k ≤ L.length ∧ i = .int .i64 (k : Int) ∧ planF n (L.drop k) = planF n L ∧ Hid (Below w.heap.size w wr)) (fun i _ => L.length - (intOf i).toNat)
    case atStart => exact ⟨0, Nat.zero_le _, rfl, rfl, Lib.hid (Below.refl _ _)⟩
    case round =>
      obtain ⟨k, hk, rfl, hp, HB⟩ := hrel
      by_cases hlt : k < L.length
      · have l1 : (k : Int) < (L.length : Int) := by omega
        have l0 : (0 : Int) ≤ (k : Int) := by omega
        obtain ⟨b1, f1, rfl, hb1, hc1⟩ := HR.out.out (by rw [evC_len]; omega)
        obtain ⟨x, hx⟩ : ∃ x, L[k]? = some x := ⟨_, List.getElem?_eq_getElem hlt⟩
        obtain ⟨n0, n1, n2⟩ := ev_at hx
        have y0 := (HB.out.cell (p := ⟨b1, f1 + k * 3, none⟩) hb1).trans (hc1 _ _ n0)
        have y1 := (HB.out.cell (p := ⟨b1, f1 + (k * 3 + 1), none⟩) hb1).trans (hc1 _ _ n1)
        have y2 := (HB.out.cell (p := ⟨b1, f1 + (k * 3 + 2), none⟩) hb1).trans (hc1 _ _ n2)
        rw [← Nat.add_assoc] at y1 y2
        rw [planF_drop hx] at hp
        clear hc1 n0 n1 n2 hx
        have HP := Lib.hid hp
        clear hp
        have wk : IntKind.i64.wrap ((k : Int) + 1) = (k : Int) + 1 := by rw [IntKind.wrap_i64]; omega
        obtain ⟨xa, xk, xl⟩ := x
        dsimp only at y0 y1 y2
        by_cases hf : flawE n ⟨xa, xk, xl⟩ = 0
        · have hp := HP.out
          rw [if_pos hf] at hp
          have HP2 := Lib.hid hp
          have hf2 : 1 ≤ xk ∧ xk ≤ 3 ∧ 1 ≤ xa ∧ (xk = 2 → 0 ≤ xl ∧ xl ≤ (n : Int) - 2) := by
            unfold flawE at hf
            dsimp only at hf
            split at hf
            · cases hf
            · split at hf
              · cases hf
              · omega
          obtain ⟨f1', f2', f3', f4'⟩ := hf2
          have HF4 := Lib.hid f4'
          clear hp hf f4' HP
          by_cases k2 : xk = 2
          · obtain ⟨g1, g2⟩ := HF4.out k2
            have kq : (xk == 2) = true := by simp [k2]
            have HK2 := Lib.hid k2
            clear k2
            go_wp2
            go_roundw
            case rel => exact ⟨k + 1, by omega, by go_num, HP2.out, Lib.hid (by first | exact HB.out | exact below_drewN HB.out _)⟩
            case measure => simp [intOf]; omega
          · have kq : (xk == 2) = false := by simp [k2]
            clear k2
            go_wp2
            go_roundw
            case rel => exact ⟨k + 1, by omega, by go_num, HP2.out, Lib.hid (by first | exact HB.out | exact below_drewN HB.out _)⟩
            case measure => simp [intOf]; omega
        · have hp := HP.out
          rw [if_neg hf] at hp
          have hc : (xk < 1 ∧ planF n L = 11) ∨ (1 ≤ xk ∧ 3 < xk ∧ planF n L = 11) ∨ (1 ≤ xk ∧ xk ≤ 3 ∧ xa < 1 ∧ planF n L = 2) ∨ (1 ≤ xa ∧ xk = 2 ∧ xl < 0 ∧ planF n L = 2) ∨ (1 ≤ xa ∧ xk = 2 ∧ 0 ≤ xl ∧ (n : Int) - 2 < xl ∧ planF n L = 2) := by
            rw [← hp]
            clear hp HP
            unfold flawE at hf ⊢
            dsimp only at hf ⊢
            by_cases a : xk < 1 ∨ 3 < xk
            · rw [if_pos a]; omega
            · rw [if_neg a] at hf ⊢
              by_cases b : xa < 1 ∨ xk = 2 ∧ (xl < 0 ∨ (n : Int) - 1 ≤ xl)
              · rw [if_pos b]; omega
              · rw [if_neg b] at hf; exact absurd rfl hf
          clear hp hf HP
          rcases hc with ⟨c1, hr⟩ | ⟨c1, c2, hr⟩ | ⟨c1, c2, c3, hr⟩ | ⟨c1, c2, c3, hr⟩ | ⟨c1, c2, c3, c4, hr⟩
          · have HO := Lib.hid hr
            clear hr
            go_wp2
            go_ret
            exact ⟨by rw [HO.out]; rfl, by first | exact HB.out | exact below_drewN HB.out _⟩
          · have HO := Lib.hid hr
            clear hr
            go_wp2
            go_ret
            exact ⟨by rw [HO.out]; rfl, by first | exact HB.out | exact below_drewN HB.out _⟩
          · have HO := Lib.hid hr
            clear hr
            go_wp2
            go_ret
            exact ⟨by rw [HO.out]; rfl, by first | exact HB.out | exact below_drewN HB.out _⟩
          · have HO := Lib.hid hr
            subst c2
            clear hr
            go_wp2
            go_ret
            exact ⟨by rw [HO.out]; rfl, by first | exact HB.out | exact below_drewN HB.out _⟩
          · have HO := Lib.hid hr
            subst c2
            clear hr
            go_wp2
            go_ret
            exact ⟨by rw [HO.out]; rfl, by first | exact HB.out | exact below_drewN HB.out _⟩
      · have l1 : ¬ (k : Int) < (L.length : Int) := by omega
        obtain rfl : k = L.length := by omega
        have hp0 : planF n L = 0 := by rw [← hp, List.drop_length]; rfl
        have HP0 := Lib.hid hp0
        clear hp hp0
        go_wp2
        go_ret
        exact ⟨by rw [HP0.out]; rfl, HB.out⟩
theorem r_Right (vars : Int) (L : List Ev) (A : Option Addr) (c : Nat) (w : World) (hR : RowG w w.heap.size A c (evC L)) (hl : L.length ≤ 1000000) :
    Calls Tryd.prog 11 #[.int .i64 vars, .slice A L.length c] w fun e w' => e = .returned (.int .i64 (rightE vars L)) ∧ Below w.heap.size w w' := by
  by_cases h0 : vars < 0
  · rw [show rightE vars L = 2 from if_pos (.inl h0)]
    go_enter Tryd.func11, Tryd.ntmps11
    go_wp2
    go_ret
    exact ⟨rfl, Below.refl _ _⟩
  · by_cases h1 : 64 < vars
    · rw [show rightE vars L = 2 from if_pos (.inr h1)]
      go_enter Tryd.func11, Tryd.ntmps11
      go_wp2
      go_ret
      exact ⟨rfl, Below.refl _ _⟩
    · obtain ⟨n, rfl⟩ : ∃ n : Nat, vars = (n : Int) := ⟨vars.toNat, by omega⟩
      have HP := Lib.hid (r_Plan n L A c w (by omega) hR hl)
      rw [show rightE n L = planR n L from if_neg (by omega)]
      clear hR
      go_enter Tryd.func11, Tryd.ntmps11
      go_wp2_with (go_at_call 24; (with_reducible refine HP.out.mono ?_); rintro e w1 ⟨rfl, hb1⟩; have HB1 := Lib.hid hb1; clear hb1)
      go_ret
      exact ⟨rfl, HB1.out⟩
end Go.Proofs.YtfppplalgdopjaaDoor
